package poly_test

import (
	"math/rand"
	"slices"
	"testing"

	"horocycle/api"
	"horocycle/poly"
)

// corner is a corner of tiles, told by the nearest tile to the first one and the mirror opposite to it.
type corner struct {
	nearest  string
	opposite int
}

// cornerOf returns the corner of a tile between two sides: the nearest one of all tiles to which words of the two letters lead.
func cornerOf(t *testing.T, o api.Orders, tile string, i, j int) corner {
	t.Helper()
	nearest, m := tile, between(o, i, j)
	for _, letters := range [2][2]int{{i, j}, {j, i}} {
		at := tile
		for n := 0; m == 0 && len(at) <= len(tile) || n < m; n++ { // at an ideal corner, until they lead farther
			at = step(t, o, at, letters[n%2])
			if len(at) < len(nearest) {
				nearest = at
			}
		}
	}
	return corner{nearest, 3 - i - j}
}

// step returns the tile beyond a side; its word may have some letters more than can be handed over.
func step(t *testing.T, o api.Orders, tile string, mirror int) string {
	t.Helper()
	half := len(tile) / 2
	return times(t, o, tile[:half], tile[half:]+letter(mirror))
}

// figure is a set of tiles with its sides and corners, by the text of P5.2 and P5.3.
type figure struct {
	o       api.Orders
	tiles   map[string]bool
	corners map[corner]int // how many of the tiles are there
	inner   map[corner]int // how many sides between two of the tiles are there
	edges   int
}

// newFigure returns the figure of some tiles.
func newFigure(t *testing.T, o api.Orders, tiles []string) *figure {
	t.Helper()
	f := &figure{o: o, tiles: map[string]bool{}, corners: map[corner]int{}, inner: map[corner]int{}}
	for _, tile := range tiles {
		f.tiles[tile] = true
	}
	for tile := range f.tiles {
		for i := range 3 {
			beside := step(t, o, tile, i)
			inner := f.tiles[beside]
			if !inner || tile < beside {
				f.edges++
			}
			for j := range 3 {
				if j == i {
					continue
				}
				c := cornerOf(t, o, tile, i, j)
				if i < j {
					f.corners[c]++
				}
				if inner && tile < beside {
					f.inner[c]++
				}
			}
		}
	}
	return f
}

// open reports whether a side lies on the border.
func (f *figure) open(t *testing.T, e api.Edge) bool {
	t.Helper()
	return f.tiles[e.Tile] && !f.tiles[step(t, f.o, e.Tile, e.Mirror)]
}

// border returns all sides on the border, in order.
func (f *figure) border(t *testing.T) []api.Edge {
	t.Helper()
	var all []string
	for tile := range f.tiles {
		all = append(all, tile)
	}
	var sides []api.Edge
	for _, tile := range sorted(all) {
		for i := range 3 {
			if e := (api.Edge{Tile: tile, Mirror: i}); f.open(t, e) {
				sides = append(sides, e)
			}
		}
	}
	return sides
}

// ends returns the mirrors with which a side makes the corner at which it begins, and that at which it ends.
func ends(e api.Edge) (begin, end int) {
	next, last := (e.Mirror+1)%3, (e.Mirror+2)%3
	if len(e.Tile)%2 == 0 {
		return last, next
	}
	return next, last
}

// next returns the next side, by the text of P5.2.
func (f *figure) next(t *testing.T, e api.Edge) api.Edge {
	t.Helper()
	_, j := ends(e)
	i, tile := e.Mirror, e.Tile
	for {
		if side := (api.Edge{Tile: tile, Mirror: j}); f.open(t, side) {
			return side
		}
		tile = step(t, f.o, tile, j)
		if side := (api.Edge{Tile: tile, Mirror: i}); f.open(t, side) {
			return side
		}
		tile = step(t, f.o, tile, i)
	}
}

// connected reports whether the tiles hang together.
func (f *figure) connected(t *testing.T) bool {
	t.Helper()
	var list []string
	for tile := range f.tiles {
		list = append(list, tile)
		break
	}
	seen := map[string]bool{}
	for len(list) > 0 {
		tile := list[0]
		list = list[1:]
		if !f.tiles[tile] || seen[tile] {
			continue
		}
		seen[tile] = true
		for i := range 3 {
			list = append(list, step(t, f.o, tile, i))
		}
	}
	return len(seen) == len(f.tiles)
}

// isPolygon reports whether the tiles are a polygon, by another road: they hang together, make one row at each corner, and are a disc by Euler's number.
func (f *figure) isPolygon(t *testing.T) bool {
	t.Helper()
	for c, n := range f.corners {
		rows := n - f.inner[c] // 0 if the tiles are all around
		if rows > 1 {
			return false
		}
	}
	return f.connected(t) && len(f.corners)-f.edges+len(f.tiles) == 1
}

// parts are the parts of pi in which angles are counted here: a multiple of all orders.
const parts = 27720

// angle returns the angle at the corner at which a side begins.
func (f *figure) angle(t *testing.T, e api.Edge) int {
	t.Helper()
	begin, _ := ends(e)
	m := between(f.o, e.Mirror, begin)
	if m == 0 {
		return 0
	}
	return f.corners[cornerOf(t, f.o, e.Tile, e.Mirror, begin)] * parts / m
}

// lowest reports whether a fraction is in lowest terms.
func lowest(f api.Frac) bool {
	for n := 2; n <= f.Den; n++ {
		if f.Num%n == 0 && f.Den%n == 0 {
			return false
		}
	}
	return f.Den >= 1
}

// checkPolygon checks all that a polygon tells of itself.
func checkPolygon(t *testing.T, p *poly.Polygon) {
	t.Helper()
	o, f := p.Orders(), newFigure(t, p.Orders(), p.Tiles())
	if !slices.Equal(sorted(p.Tiles()), p.Tiles()) || len(f.tiles) != len(p.Tiles()) || !f.isPolygon(t) {
		t.Fatalf("%v: %s is a polygon", o, text(p.Tiles()))
	}
	var border []api.Edge
	all := f.border(t)
	for e := all[0]; len(border) < len(all); e = f.next(t, e) {
		border = append(border, e)
	}
	if got := p.Border(); !slices.Equal(got, border) {
		t.Fatalf("%v: %s has the border %s, want %s", o, text(p.Tiles()), borderText(got), borderText(border))
	}
	checkBorder(t, f, border, all)
	checkCorners(t, f, p)
}

// checkBorder checks that each side on the border stands in it once, and that following ones share a corner, to which they come once (P5.1, P5.8).
func checkBorder(t *testing.T, f *figure, border, all []api.Edge) {
	t.Helper()
	met := map[corner]bool{}
	for at, e := range border {
		_, end := ends(e)
		next := border[(at+1)%len(border)]
		begin, _ := ends(next)
		here := cornerOf(t, f.o, e.Tile, e.Mirror, end)
		if here != cornerOf(t, f.o, next.Tile, next.Mirror, begin) || met[here] || !slices.Contains(border, all[at]) {
			t.Fatalf("%v: the border %s at %s", f.o, borderText(border), edgeText(e))
		}
		met[here] = true
	}
}

// checkCorners checks the corners of a polygon, whether it is convex, and its area: by its tiles, and by its angles (P5.3, P5.4, P5.6).
func checkCorners(t *testing.T, f *figure, p *poly.Polygon) {
	t.Helper()
	corners, convex, sum := p.Corners(), true, 0
	rest := corners
	for _, e := range p.Border() {
		angle := f.angle(t, e)
		convex = convex && angle <= parts
		if angle == parts {
			continue
		}
		if len(rest) == 0 || rest[0].Edge != e || !lowest(rest[0].Angle) || rest[0].Angle.Num*parts != angle*rest[0].Angle.Den {
			t.Fatalf("%v: %s has the corners %s; that of %s has the angle %d/%d", f.o, text(p.Tiles()), cornersText(corners), edgeText(e), angle, parts)
		}
		rest = rest[1:]
		sum += angle
	}
	area := p.Area()
	if len(rest) != 0 || p.Convex() != convex || !lowest(area) || area.Num*parts != ((len(corners)-2)*parts-sum)*area.Den {
		t.Fatalf("%v: %s has the corners %s, Convex %v, the area %s", f.o, text(p.Tiles()), cornersText(corners), p.Convex(), fracText(area))
	}
	tile := parts
	for _, m := range []int{f.o.M01, f.o.M12, f.o.M02} {
		if m != 0 {
			tile -= parts / m
		}
	}
	if area.Num*parts != tile*len(f.tiles)*area.Den {
		t.Fatalf("%v: %d tiles have the area %s", f.o, len(f.tiles), fracText(area))
	}
}

// P5.1 to P5.4, P5.6, P5.8: some tiles are a polygon or none as another road says, and polygons are told as the text says.
func TestSomeTiles(t *testing.T) {
	eachOrders(t, func(t *testing.T, o api.Orders, r *rand.Rand) {
		polygons, others := 0, 0
		for range 150 {
			tiles := grown(t, o, r, longTile(t, o, r, r.Intn(12)), 60)
			if r.Intn(8) == 0 && len(tiles) > 2 {
				tiles = slices.Delete(tiles, 1, 2)
			}
			p, err := poly.New(o, tiles)
			if want := newFigure(t, o, tiles).isPolygon(t); want != (err == api.OK) || !want && err != api.ErrApart {
				t.Fatalf("%v: New of %s: the error %d", o, text(tiles), err)
			}
			if err != api.OK {
				others++
				continue
			}
			polygons++
			checkPolygon(t, p)
		}
		if polygons < 20 || others < 2 {
			t.Errorf("%d polygons and %d others are looked at", polygons, others)
		}
	})
}

// P5.2 to P5.4: the first tile, two tiles, and all tiles around a corner, for all allowed orders.
func TestAllOrders(t *testing.T) {
	for i := range 13 {
		for j := range 13 {
			for k := range 13 {
				o := api.Orders{M01: i, M12: j, M02: k}
				p, err := poly.New(o, []string{""})
				if err != api.OK {
					continue // not allowed
				}
				if got := borderText(p.Border()); got != "e:0 e:1 e:2" {
					t.Errorf("%v: the first tile has the border %s", o, got)
				}
				for mirror, m := range []int{o.M02, o.M01, o.M12} { // where the sides 0, 1 and 2 begin
					want := api.Frac{Num: min(1, m), Den: max(1, m)}
					if c := p.Corners(); len(c) != 3 || c[mirror] != (api.Corner{Angle: want, Edge: api.Edge{Mirror: mirror}}) {
						t.Errorf("%v: the first tile has the corners %s", o, cornersText(c))
					}
					checkPolygon(t, polygon(t, o, []string{letter(mirror), ""}))
					a, b := mirror, (mirror+2)%3
					checkAround(t, o, a, b, m)
				}
			}
		}
	}
}

// checkAround checks the polygons of tiles around the corner of the first tile between two mirrors, one tile more at a time.
func checkAround(t *testing.T, o api.Orders, a, b, m int) {
	t.Helper()
	var tiles []string
	for n := range max(4, 2*m) {
		tiles = append(tiles, turns(a, b, n))
		if n < 3 || n >= m-1 {
			p := polygon(t, o, tiles)
			if want := m == 0 || n < m || n == 2*m-1; p.Convex() != want {
				t.Fatalf("%v: %s: Convex is %v", o, text(tiles), p.Convex())
			}
			if n == 2*m-1 {
				checkPolygon(t, p)
			}
		}
	}
}

// full is what is on the border, each side with the angle ahead of it (also half a turn).
type full struct {
	edge  api.Edge
	angle api.Frac
}

// fullBorder returns the border of a polygon with all angles.
func fullBorder(p *poly.Polygon) []full {
	var out []full
	corners := p.Corners()
	for _, e := range p.Border() {
		side := full{e, api.Frac{Num: 1, Den: 1}}
		if len(corners) > 0 && corners[0].Edge == e {
			side.angle = corners[0].Angle
			corners = corners[1:]
		}
		out = append(out, side)
	}
	return out
}

// carried returns what a motion makes of a border: one of an odd number of letters turns it around, so that the angle ahead of a side is the one that was behind it.
func carried(t *testing.T, o api.Orders, by string, border []full) []full {
	t.Helper()
	var out []full
	for at, side := range border {
		if len(by)%2 == 1 {
			side.angle = border[(at+1)%len(border)].angle
		}
		side.edge.Tile = times(t, o, by, side.edge.Tile)
		out = append(out, side)
	}
	if len(by)%2 == 1 {
		slices.Reverse(out)
	}
	return out
}

// P5.8: motions carry polygons to polygons, the mirrors with the borders turned around.
func TestMotions(t *testing.T) {
	eachOrders(t, func(t *testing.T, o api.Orders, r *rand.Rand) {
		for range 60 {
			tiles := grown(t, o, r, longTile(t, o, r, r.Intn(10)), 16)
			p, err := poly.New(o, tiles)
			for _, by := range []string{letter(0), wordOf(r, r.Intn(30))} {
				q, again := poly.New(o, moved(t, o, by, tiles))
				if again != err {
					t.Fatalf("%v: New of %s: the error %d, moved by %s: %d", o, text(tiles), err, digits(by), again)
				}
				if err != api.OK {
					continue
				}
				want, got := carried(t, o, by, fullBorder(p)), fullBorder(q)
				at := slices.Index(want, got[0])
				if at < 0 || !slices.Equal(slices.Concat(want[at:], want[:at]), got) || q.Area() != p.Area() || q.Convex() != p.Convex() {
					t.Fatalf("%v: %s has the border %s, moved by %s: %s", o, text(tiles), borderText(p.Border()), digits(by), borderText(q.Border()))
				}
			}
		}
	})
}

// P5.1, P5.2: tiles as far as words go, whose sides lead farther.
func TestFarTiles(t *testing.T) {
	eachOrders(t, func(t *testing.T, o api.Orders, r *rand.Rand) {
		for range 3 {
			tile := longTile(t, o, r, api.MaxWord)
			checkPolygon(t, polygon(t, o, []string{tile}))
			var tiles []string
			for _, near := range grown(t, o, r, tile[:50], 30) {
				if len(near) <= api.MaxWord {
					tiles = append(tiles, near)
				}
			}
			if p, err := poly.New(o, tiles); err == api.OK {
				checkPolygon(t, p)
			}
		}
	})
}
