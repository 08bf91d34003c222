package poly_test

import (
	"math/rand"
	"slices"
	"strings"
	"testing"

	"horocycle/api"
	"horocycle/poly"
)

// P5.5: hulls.
func TestHull(t *testing.T) {
	right := api.Orders{M02: 2}
	for _, c := range []struct {
		o          api.Orders
		from, want string
	}{
		{usual(), "e", "e"}, {usual(), "2", "2"}, {usual(), "0 1", "e 0 1"}, {usual(), "0 2", "e 0 2 02"}, {usual(), "e 02", "e 0 2 02"}, {usual(), "20 0 0110", "e 0 2 02"}, {usual(), "20 0 0", "0 02"},
		{usual(), "e 010", "e 0 1 01 10 010"}, {usual(), "0 10", "e 0 1 01 10 010"}, {usual(), "0 01 1", "e 0 1 01 10 010"}, {usual(), "01 1 e", "e 0 1 01 10 010"}, {usual(), "01 e", "e 0 01"}, {usual(), "1212 e", "e 1 12 121 1212"},
		{usual(), "2 12121 1", "e 1 2 12 121 1212 12121"}, {usual(), "2 12121 12121212", "e 1 2 12 21 121 212 1212 2121 12121 21212 121212 212121 1212121"},
		{usual(), "012 e", "e 0 01 012"}, {usual(), "021 10", "e 0 1 2 01 02 10 010 021"},
		{api.Orders{}, "0 1", "e 0 1"}, {api.Orders{}, "0 1 2", "e 0 1 2"}, {api.Orders{}, "01 20", "e 0 2 01 20"}, {api.Orders{}, "0101 1010", "e 0 1 01 10 010 101 0101 1010"},
		{right, "1 02", "e 0 1 2 02"}, {right, "102 0", "e 0 1 10 12 102"},
	} {
		p := hull(t, c.o, all(c.from))
		if text(p.Tiles()) != c.want || !p.Convex() || p.Orders() != c.o {
			t.Errorf("%v: the hull of %s is %s, want %s", c.o, c.from, text(p.Tiles()), c.want)
		}
		if q := polygon(t, c.o, all(c.want)); borderText(p.Border()) != borderText(q.Border()) || cornersText(p.Corners()) != cornersText(q.Corners()) || p.Area() != q.Area() {
			t.Errorf("%v: the hull of %s has the border %s, New has %s", c.o, c.from, borderText(p.Border()), borderText(q.Border()))
		}
	}
}

// P5.4, P5.5: five ideal corners.
func TestIdealHull(t *testing.T) {
	p := hull(t, api.Orders{}, all("0 1"))
	if want := "0/1@e:2 0/1@0:2 0/1@0:1 0/1@1:0 0/1@1:2"; cornersText(p.Corners()) != want || p.Area() != (api.Frac{Num: 3, Den: 1}) {
		t.Errorf("the corners %s, want %s, the area %s", cornersText(p.Corners()), want, fracText(p.Area()))
	}
}

// P5.1, P5.5: as many tiles as a polygon may have, and one more.
func TestMostTiles(t *testing.T) {
	row := func(start string, pair string) string { return (start + strings.Repeat(pair, 30))[:60] }
	one, two, three := row(word("0"), word("12")), row(word("1"), word("02")), row(word("2"), word("01"))
	list := []string{one, two, three, one[:41] + strings.Repeat(word("01"), 9) + word("0")} // a tree, in the world of ideal corners
	p := hull(t, api.Orders{}, list)
	if len(p.Tiles()) != 200 || len(p.Border()) != 202 || len(p.Corners()) != 202 || !p.Convex() || p.Area() != (api.Frac{Num: 200, Den: 1}) {
		t.Fatalf("%d tiles, %d sides, %d corners, the area %s", len(p.Tiles()), len(p.Border()), len(p.Corners()), fracText(p.Area()))
	}
	for _, q := range []*poly.Polygon{polygon(t, api.Orders{}, p.Tiles()), hull(t, api.Orders{}, p.Tiles())} {
		if !slices.Equal(q.Tiles(), p.Tiles()) || !slices.Equal(q.Border(), p.Border()) {
			t.Errorf("%d tiles", len(q.Tiles()))
		}
	}
	more := slices.Clone(list)
	more = append(more, one[:40]+word("0"))
	if q, err := poly.Hull(api.Orders{}, more); q != nil || err != api.ErrFull {
		t.Errorf("a hull of 201 tiles: the error %d", err)
	}
	if q, err := poly.Hull(usual(), []string{strings.Repeat(word("012"), 20), strings.Repeat(word("210"), 20)}); q != nil || err != api.ErrFull {
		t.Errorf("a hull between far tiles: the error %d", err)
	}
}

// P5.5: tiles of hulls may have more letters than words that are handed over.
func TestLongHull(t *testing.T) {
	right, great := api.Orders{M02: 2}, api.Orders{M01: 12, M12: 12, M02: 12}
	far, way := strings.Repeat(word("12"), 30), word("0")+strings.Repeat(word("21"), 29)
	for _, c := range []struct {
		o           api.Orders
		list        []string
		tiles, last int
	}{
		{right, []string{way + letter(0), way + letter(2)}, 4, 61},
		{right, []string{way + letter(0), way + letter(2), far}, 124, 61}, // 121 mirrors lie between two of its tiles
		{great, []string{longTurn(54, 6, 0, 1), longTurn(54, 6, 1, 0)}, 24, 66},
	} {
		p := hull(t, c.o, c.list)
		tiles := p.Tiles()
		last := tiles[len(tiles)-1]
		if len(tiles) != c.tiles || len(last) != c.last || !p.Convex() || p.Has(last) || !p.Has(c.list[0]) {
			t.Fatalf("%v: the hull of %s is %s; Has %v", c.o, text(c.list), text(tiles), p.Has(last))
		}
		checkPolygon(t, p)
	}
}

// longTurn returns a word that goes to a corner between the mirrors 0 and 1 in as many letters, and on around it by so many of i and j.
func longTurn(letters, turn, i, j int) string {
	return (strings.Repeat(word("012"), 20)[:letters-1] + word("2")) + turns(i, j, turn)
}

// apart reports whether a mirror separates a tile from all tiles of a list: it lies on a shortest way from the tile to the first one of them.
func apart(t *testing.T, o api.Orders, tile string, list []string) bool {
	t.Helper()
	for near := tile; near != list[0]; {
		for i := range 3 {
			next := step(t, o, near, i)
			if far(t, o, next, list[0]) > far(t, o, near, list[0]) {
				continue
			}
			beyond := func(other string) bool { return far(t, o, next, other) < far(t, o, near, other) }
			if !slices.ContainsFunc(list, func(other string) bool { return !beyond(other) }) {
				return true
			}
			near = next
			break
		}
	}
	return false
}

// disc returns all tiles up to a distance from a tile.
func disc(t *testing.T, o api.Orders, at string, most int) []string {
	t.Helper()
	tiles := []string{at}
	for k := 0; k < len(tiles); k++ {
		for i := range 3 {
			next := step(t, o, tiles[k], i)
			if far(t, o, at, next) <= most && !slices.Contains(tiles, next) {
				tiles = append(tiles, next)
			}
		}
	}
	return tiles
}

// someList returns some tiles near to a tile.
func someList(t *testing.T, o api.Orders, r *rand.Rand, at string, letters int) []string {
	t.Helper()
	var list []string
	for range 1 + r.Intn(4) {
		list = append(list, times(t, o, at, wordOf(r, r.Intn(letters+1))))
	}
	return list
}

// P5.5: the hull has just the tiles that no mirror separates from all of the list.
func TestHullByMirrors(t *testing.T) {
	eachOrders(t, func(t *testing.T, o api.Orders, r *rand.Rand) {
		for range 15 {
			list := someList(t, o, r, longTile(t, o, r, r.Intn(20)), 9)
			tiles := hull(t, o, list).Tiles()
			for _, tile := range tiles {
				if apart(t, o, tile, list) {
					t.Fatalf("the hull of %s has %s", text(list), digits(tile))
				}
				for i := range 3 {
					if beside := step(t, o, tile, i); !slices.Contains(tiles, beside) && !apart(t, o, beside, list) {
						t.Fatalf("the hull of %s has %s, but not %s", text(list), digits(tile), digits(beside))
					}
				}
			}
		}
	})
}

// P5.5: no tile of the hull is left out because it does not hang together with the others.
func TestHullHangsTogether(t *testing.T) {
	eachOrders(t, func(t *testing.T, o api.Orders, r *rand.Rand) {
		for range 4 {
			list := someList(t, o, r, wordOf(r, r.Intn(5)), 5)
			tiles := hull(t, o, list).Tiles()
			for _, tile := range disc(t, o, list[0], 6) {
				if slices.Contains(tiles, tile) == apart(t, o, tile, list) {
					t.Fatalf("the hull of %s is %s: the tile %s", text(list), text(tiles), digits(tile))
				}
			}
		}
	})
}

// P5.5, P5.8: the hull of moved tiles is the moved hull, as far as words go.
func TestFarHulls(t *testing.T) {
	eachOrders(t, func(t *testing.T, o api.Orders, r *rand.Rand) {
		for range 20 {
			by, list := longTile(t, o, r, 40+r.Intn(21)), someList(t, o, r, "", 8)
			near := moved(t, o, by, list)
			if slices.ContainsFunc(near, func(tile string) bool { return len(tile) > api.MaxWord }) {
				continue
			}
			p, q := hull(t, o, list), hull(t, o, near)
			if want := sorted(moved(t, o, by, p.Tiles())); !slices.Equal(q.Tiles(), want) || q.Area() != p.Area() {
				t.Fatalf("the hull of %s is %s, of %s, moved, it is %s", text(near), text(q.Tiles()), text(list), text(want))
			}
			checkPolygon(t, q)
		}
	})
}

// P5.7: the hull has the tiles, is convex, and is its own hull.
func TestHullLaws(t *testing.T) {
	eachOrders(t, func(t *testing.T, o api.Orders, r *rand.Rand) {
		for range 20 {
			list := someList(t, o, r, wordOf(r, r.Intn(20)), 10)
			p := hull(t, o, list)
			if !p.Convex() || slices.ContainsFunc(list, func(tile string) bool { return !p.Has(tile) }) {
				t.Fatalf("the hull of %s is %s, Convex %v", text(list), text(p.Tiles()), p.Convex())
			}
			checkPolygon(t, p)
			if q := hull(t, o, p.Tiles()); !slices.Equal(q.Tiles(), p.Tiles()) || !slices.Equal(q.Border(), p.Border()) || !slices.Equal(q.Corners(), p.Corners()) {
				t.Fatalf("the hull of %s is %s, its own is %s", text(list), text(p.Tiles()), text(q.Tiles()))
			}
			checkWithin(t, o, r, p)
		}
	})
}

// checkWithin checks that a convex polygon has all of the hull of some of its tiles.
func checkWithin(t *testing.T, o api.Orders, r *rand.Rand, p *poly.Polygon) {
	t.Helper()
	tiles := p.Tiles()
	list := []string{tiles[r.Intn(len(tiles))], tiles[r.Intn(len(tiles))], tiles[r.Intn(len(tiles))]}
	for _, tile := range hull(t, o, list).Tiles() {
		if !p.Has(tile) {
			t.Fatalf("%v: the hull of %s has %s, the polygon %s has not", o, text(list), digits(tile), text(tiles))
		}
	}
}

// P5.7: a polygon is convex exactly if it is its own hull.
func TestConvexIsItsHull(t *testing.T) {
	eachOrders(t, func(t *testing.T, o api.Orders, r *rand.Rand) {
		convex := 0
		for range 100 {
			p, err := poly.New(o, grown(t, o, r, longTile(t, o, r, r.Intn(12)), 9))
			if err != api.OK {
				continue
			}
			q, err := poly.Hull(o, p.Tiles())
			own := err == api.OK && slices.Equal(q.Tiles(), p.Tiles())
			if p.Convex() != own {
				t.Fatalf("%s: Convex is %v, the hull is %s, the error %d", text(p.Tiles()), p.Convex(), text(q.Tiles()), err)
			}
			if own {
				convex++
			}
		}
		if convex < 10 {
			t.Errorf("%d polygons are convex", convex)
		}
	})
}
