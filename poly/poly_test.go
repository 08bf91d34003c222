package poly_test

import (
	"slices"
	"strings"
	"testing"

	"horocycle/api"
	"horocycle/poly"
)

// P5.1 to P5.4: polygons, their borders, corners and areas.
func TestPolygons(t *testing.T) {
	square, half := api.Orders{M01: 4, M12: 4, M02: 4}, api.Orders{M01: 3, M02: 2} // the corner of half opposite to 0 is ideal
	for _, c := range []struct {
		o                      api.Orders
		tiles, border, corners string
		area                   string
		convex                 bool
	}{
		{usual(), "e", "e:0 e:1 e:2", "1/2@e:0 1/3@e:1 1/7@e:2", "1/42", true},
		{usual(), "e 0", "e:1 e:2 0:2 0:1", "2/3@e:1 1/7@e:2 1/7@0:1", "1/21", true}, // the angle ahead of 0:2 is half a turn
		{usual(), "e 1", "e:0 1:0 1:2 e:2", "1/2@e:0 2/3@1:0 1/2@1:2 2/7@e:2", "1/21", true},
		{usual(), "e 2", "e:0 e:1 2:1 2:0", "1/3@e:1 2/7@2:1 1/3@2:0", "1/21", true},
		{usual(), "2", "2:0 2:2 2:1", "1/3@2:0 1/2@2:2 1/7@2:1", "1/42", true}, // an odd tile: its mirrors follow one another to the right
		{usual(), "012", "012:0 012:2 012:1", "1/3@012:0 1/2@012:2 1/7@012:1", "1/42", true},
		{usual(), "e 0 1 01 10", "e:2 0:2 01:2 01:0 10:1 10:2 1:2", "2/7@e:2 2/7@01:2 1/2@01:0 5/3@10:1 1/7@10:2", "5/42", false},
		{usual(), "e 0 1 01 10 010", "e:2 0:2 01:2 010:2 10:2 1:2", "2/7@e:2 2/7@01:2 2/7@10:2", "1/7", true}, // all around one corner
		{usual(), "e 0 2", "e:1 2:1 2:0 0:2 0:1", "2/3@e:1 2/7@2:1 1/3@2:0 3/2@0:2 1/7@0:1", "1/14", false},
		{api.Orders{}, "e", "e:0 e:1 e:2", "0/1@e:0 0/1@e:1 0/1@e:2", "1/1", true},
		{api.Orders{}, "e 1", "e:0 1:0 1:2 e:2", "0/1@e:0 0/1@1:0 0/1@1:2 0/1@e:2", "2/1", true},
		{half, "e 0 2", "e:1 2:1 2:0 0:2 0:1", "2/3@e:1 0/1@2:1 1/3@2:0 3/2@0:2 0/1@0:1", "1/2", false},
		{half, "e 1 12", "e:0 1:0 12:0 12:1 e:2", "1/2@e:0 2/3@1:0 1/3@12:1 0/1@e:2", "1/2", true},
		{square, "e", "e:0 e:1 e:2", "1/4@e:0 1/4@e:1 1/4@e:2", "1/4", true},
		{square, "e 0 01 012", "e:1 e:2 0:2 012:1 012:0 01:0", "3/4@e:1 1/4@e:2 1/2@0:2 3/4@012:1 1/4@012:0 1/2@01:0", "1/1", true},
	} {
		p := polygon(t, c.o, all(c.tiles))
		if borderText(p.Border()) != c.border || cornersText(p.Corners()) != c.corners {
			t.Errorf("%v: %s has the border %s, want %s; the corners %s, want %s", c.o, c.tiles, borderText(p.Border()), c.border, cornersText(p.Corners()), c.corners)
		}
		if text(p.Tiles()) != c.tiles || fracText(p.Area()) != c.area || p.Convex() != c.convex || p.Orders() != c.o {
			t.Errorf("%v: %s has the tiles %s, the area %s, want %s, Convex %v", p.Orders(), c.tiles, text(p.Tiles()), fracText(p.Area()), c.area, p.Convex())
		}
	}
}

// P5.3, P5.4: fourteen tiles around the corner of order 7 are a heptagon.
func TestHeptagon(t *testing.T) {
	var tiles []string
	for n := range 14 {
		tiles = append(tiles, turns(1, 2, n))
	}
	p := polygon(t, usual(), tiles)
	if len(p.Tiles()) != 14 || len(p.Border()) != 14 || len(p.Corners()) != 7 || p.Area() != (api.Frac{Num: 1, Den: 3}) || !p.Convex() {
		t.Errorf("%s, border %s, corners %s", text(p.Tiles()), borderText(p.Border()), cornersText(p.Corners()))
	}
	for _, c := range p.Corners() {
		if c.Angle != (api.Frac{Num: 2, Den: 3}) || c.Edge.Mirror != 0 {
			t.Errorf("the corner %s", cornersText([]api.Corner{c}))
		}
	}
}

// P5.1: any words, in any order, also more than one to a tile; shorter normal words first.
func TestTilesInOrder(t *testing.T) {
	for _, c := range []struct{ from, want string }{
		{"0 e 00", "e 0"}, {"101 10 01 1 0 e", "e 0 1 01 10 010"}, {"20 2 0 e 02", "e 0 2 02"}, {"2121212 2 1 21 21212 212121 2121 212 e 121212 12121 1212 121 12", "e 1 2 12 21 121 212 1212 2121 12121 21212 121212 212121 1212121"},
		{"00 11 22 0110", "e"}, {"20 021", "02 021"},
	} {
		p := polygon(t, usual(), all(c.from))
		if text(p.Tiles()) != c.want {
			t.Errorf("the tiles of %s are %s, want %s", c.from, text(p.Tiles()), c.want)
		}
		back := all(c.from)
		slices.Reverse(back)
		if q := polygon(t, usual(), back); borderText(q.Border()) != borderText(p.Border()) || cornersText(q.Corners()) != cornersText(p.Corners()) {
			t.Errorf("%s in another order have the border %s, not %s", c.from, borderText(q.Border()), borderText(p.Border()))
		}
	}
}

// P5.1: whether a tile is one of the polygon's.
func TestHas(t *testing.T) {
	p := polygon(t, usual(), all("e 0 1 01 10 010"))
	for _, c := range []struct {
		tile string
		want bool
	}{
		{"", true}, {word("101"), true}, {word("010"), true}, {word("0110"), true}, {word("10101"), true}, {word("2"), false}, {word("02"), false}, {word("012"), false},
		{"\x03", false}, {"0", false}, {"\x00\xff", false}, {strings.Repeat("\x00", 60), true}, {strings.Repeat("\x00", 62), false},
	} {
		if got := p.Has(c.tile); got != c.want {
			t.Errorf("Has of %q is %v", c.tile, got)
		}
	}
}

// P5.1: what is no polygon.
func TestApart(t *testing.T) {
	// All tiles around the first one, of which 010 is at its corner between 0 and 1.
	around := "0 1 2 01 02 10 12 21 010 121 212 1212 2121 12121 21212 121212 212121 1212121"
	ideal := api.Orders{M12: 3, M02: 2} // the corner between 0 and 1
	for _, c := range []struct {
		o     api.Orders
		tiles string
		want  api.Errno
	}{
		{usual(), "", api.ErrApart}, {usual(), "e 01", api.ErrApart}, {usual(), "e 12", api.ErrApart}, {usual(), "0 2", api.ErrApart}, {usual(), "e 0 012", api.ErrApart}, {usual(), "e 0101 01", api.ErrApart},
		{usual(), "e 2120", api.ErrApart}, {api.Orders{}, "0 1", api.ErrApart}, {api.Orders{}, "e 01", api.ErrApart}, {api.Orders{}, "e 012", api.ErrApart},
		{usual(), around, api.ErrApart},                                    // two lines
		{usual(), "e " + around, api.OK},                                   // the tile within
		{usual(), strings.Replace(around, "010 ", "", 1), api.ErrApart},    // one line, which comes to the corner twice
		{usual(), strings.Replace(around, "10 12", "12", 1), api.ErrApart}, // a tile at the corner beside 1
		{usual(), strings.Replace(around, "2 01 02", "01", 1), api.OK},     // the tile within has a side outside
		{ideal, "e 2 02 021 0212 012 01", api.ErrApart},                    // around the tile 0, but for its ideal corner, to which the one line comes twice
		{ideal, "e 2 02 021 0212 012 01 0", api.OK},
		{ideal, "e 2 02 021 0212 012", api.OK},
		{ideal, "2 02 021 0212 012 01", api.OK},
		{ideal, "e 0 01 010 0101 01010", api.OK},
	} {
		p, err := poly.New(c.o, all(c.tiles))
		if err != c.want || (p == nil) != (err != api.OK) {
			t.Errorf("%v: New of %s: the error %d, want %d", c.o, c.tiles, err, c.want)
		}
	}
}

// P1, P2, P5.1, P5.5: errors, in their order.
func TestErrors(t *testing.T) {
	no, long := "\x03", strings.Repeat("\x00", 61)
	small, full := api.Orders{M01: 2, M12: 3, M02: 6}, api.Orders{M01: 7, M12: 9, M02: 2}
	list := func(n int, last string) []string { return append(make([]string, n-1), last) }
	for _, c := range []struct {
		o         api.Orders
		tiles     []string
		new, hull api.Errno
	}{
		{small, nil, api.ErrArg, api.ErrArg}, {small, []string{long}, api.ErrArg, api.ErrArg}, {small, list(201, ""), api.ErrArg, api.ErrArg}, {api.Orders{M01: -1}, []string{""}, api.ErrArg, api.ErrArg}, {api.Orders{M02: 13}, []string{""}, api.ErrArg, api.ErrArg},
		{full, nil, api.ErrFull, api.ErrFull}, {full, []string{no}, api.ErrFull, api.ErrFull}, {full, []string{""}, api.ErrFull, api.ErrFull},
		{usual(), nil, api.ErrApart, api.ErrApart}, {usual(), []string{}, api.ErrApart, api.ErrApart}, {api.Orders{}, nil, api.ErrApart, api.ErrApart},
		{usual(), list(201, ""), api.ErrFull, api.ErrFull}, {usual(), list(201, no), api.ErrFull, api.ErrFull}, {usual(), append([]string{no}, list(200, "")...), api.ErrFull, api.ErrFull}, {usual(), list(5000, "\x00"), api.ErrFull, api.ErrFull},
		{usual(), list(200, ""), api.OK, api.OK}, {usual(), list(200, "\x00"), api.OK, api.OK}, {usual(), list(200, no), api.ErrArg, api.ErrArg}, {usual(), list(200, long), api.ErrFull, api.ErrFull},
		{usual(), []string{no}, api.ErrArg, api.ErrArg}, {usual(), []string{"", "0"}, api.ErrArg, api.ErrArg}, {usual(), []string{long}, api.ErrFull, api.ErrFull}, {usual(), []string{long + no}, api.ErrArg, api.ErrArg},
		{usual(), []string{long, no}, api.ErrFull, api.ErrFull}, {usual(), []string{"", no, long}, api.ErrArg, api.ErrArg}, {usual(), []string{"", word("01"), no}, api.ErrArg, api.ErrArg}, {usual(), []string{"", word("01"), long}, api.ErrFull, api.ErrFull},
		{usual(), []string{"", word("01")}, api.ErrApart, api.OK}, {usual(), []string{long[1:]}, api.OK, api.OK}, {usual(), []string{"\x02" + long[1:]}, api.ErrFull, api.ErrFull},
	} {
		if p, err := poly.New(c.o, c.tiles); err != c.new || (p == nil) != (err != api.OK) {
			t.Errorf("%v: New of %d tiles, the last one %q: the error %d, want %d", c.o, len(c.tiles), c.tiles[max(0, len(c.tiles)-1):], err, c.new)
		}
		if p, err := poly.Hull(c.o, c.tiles); err != c.hull || (p == nil) != (err != api.OK) {
			t.Errorf("%v: Hull of %d tiles, the last one %q: the error %d, want %d", c.o, len(c.tiles), c.tiles[max(0, len(c.tiles)-1):], err, c.hull)
		}
	}
}

// P1: polygons that no function has returned.
func TestNone(t *testing.T) {
	var none *poly.Polygon
	for _, p := range []*poly.Polygon{none, {}, new(poly.Polygon)} {
		if p.Orders() != (api.Orders{}) || len(p.Tiles()) != 0 || p.Has("") || p.Has("\x03") || len(p.Border()) != 0 || len(p.Corners()) != 0 || p.Area() != (api.Frac{}) || p.Convex() {
			t.Error("a polygon that is none")
		}
	}
}

// P3, P4: polygons are never changed, by arguments or by results.
func TestResultsApart(t *testing.T) {
	list := all("e 0 1 01 10")
	given := slices.Clone(list)
	p, h := polygon(t, usual(), list), hull(t, usual(), list)
	if !slices.Equal(list, given) {
		t.Errorf("the list became %s", text(list))
	}
	for _, p := range []*poly.Polygon{p, h} {
		tiles, border, corners := text(p.Tiles()), borderText(p.Border()), cornersText(p.Corners())
		for i := range list {
			list[i] = "x"
		}
		clear(p.Tiles())
		clear(p.Border())
		clear(p.Corners())
		_ = append(p.Tiles()[:2], "x", "x")
		if text(p.Tiles()) != tiles || borderText(p.Border()) != border || cornersText(p.Corners()) != corners || !p.Has(word("01")) || p.Has("x") {
			t.Errorf("%s became %s, with the border %s and the corners %s", tiles, text(p.Tiles()), borderText(p.Border()), cornersText(p.Corners()))
		}
	}
}
