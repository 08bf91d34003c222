package poly

import (
	"cmp"
	"iter"
	"slices"
	"strings"

	"horocycle/api"
	"horocycle/words"
)

// letters are the letters of the mirrors 0, 1 and 2.
const letters = "\x00\x01\x02"

// region is some tiles of the plane, at most MaxTiles.
type region struct {
	orders api.Orders
	tiles  []string             // normal words
	beside map[string][3]string // by tiles of the region: the tiles beyond the three sides
}

// newRegion returns a region without tiles. The orders are allowed.
func newRegion(o api.Orders) *region {
	return &region{orders: o, beside: map[string][3]string{}}
}

// put puts a tile to the others.
func (r *region) put(tile string) {
	if r.has(tile) {
		return
	}
	if len(r.tiles) == api.MaxTiles {
		panic(api.ErrFull)
	}
	r.tiles = append(r.tiles, tile)
	r.beside[tile] = [3]string{r.step(tile, 0), r.step(tile, 1), r.step(tile, 2)}
}

// has reports whether a tile is one of them.
func (r *region) has(tile string) bool {
	_, has := r.beside[tile]
	return has
}

// sort brings the tiles into their order: shorter ones first.
func (r *region) sort() {
	slices.SortFunc(r.tiles, func(s, t string) int {
		return cmp.Or(cmp.Compare(len(s), len(t)), strings.Compare(s, t))
	})
}

// beyond returns the tile beyond a side.
func (r *region) beyond(side api.Edge) string {
	if beside, has := r.beside[side.Tile]; has {
		return beside[side.Mirror]
	}
	return r.step(side.Tile, side.Mirror)
}

// step returns the normal word of the tile beyond a side of any tile.
func (r *region) step(tile string, mirror int) string {
	// The words of a hull's tiles may have some letters more than can be handed over, by far not twice as many: two parts are enough.
	cut := min(len(tile), api.MaxWord)
	return sure(words.Times(r.orders, tile[:cut], tile[cut:]+letters[mirror:mirror+1]))
}

// open reports whether a side of a tile of the region lies on the border.
func (r *region) open(side api.Edge) bool {
	return !r.has(r.beyond(side))
}

// openSides returns all sides on the border, in the order of the tiles.
func (r *region) openSides() []api.Edge {
	var sides []api.Edge
	for _, tile := range r.tiles {
		for mirror := range len(letters) {
			if side := (api.Edge{Tile: tile, Mirror: mirror}); r.open(side) {
				sides = append(sides, side)
			}
		}
	}
	return sides
}

// turn yields the sides over which one goes around the corner of a tile between its sides i and j: i at first, and on without end.
func (r *region) turn(tile string, i, j int) iter.Seq[api.Edge] {
	return func(yield func(api.Edge) bool) {
		side := api.Edge{Tile: tile, Mirror: i}
		for yield(side) {
			side = api.Edge{Tile: r.beyond(side), Mirror: i + j - side.Mirror}
		}
	}
}

// order returns the order of a corner between two mirrors.
func (r *region) order(i, j int) int {
	return [3]int{r.orders.M12, r.orders.M02, r.orders.M01}[opposite(i, j)]
}

// opposite returns the mirror that does not go through the corner between two mirrors.
func opposite(i, j int) int {
	return 3 - i - j
}

// spot is a corner of tiles: the tile that is nearest to the first one, of those around it, and the mirror opposite to it there.
type spot struct {
	nearest  string
	opposite int
}

// spot returns the corner of a tile between two of its sides.
func (r *region) spot(tile string, i, j int) spot {
	return spot{r.nearest(r.nearest(tile, i, j), j, i), opposite(i, j)}
}

// nearest returns the tile to which one comes around a corner, at first over i, as long as each tile is nearer to the first one.
func (r *region) nearest(tile string, i, j int) string {
	for side := range r.turn(tile, i, j) {
		if len(side.Tile) > len(tile) {
			break
		}
		tile = side.Tile
	}
	return tile
}
