package poly

import (
	"horocycle/api"
	"horocycle/words"
)

// growth is tiles that become their hull.
// A shortest way goes over each mirror at most once, so that a hull has all shortest ways between its tiles: no other tiles are put here.
type growth struct {
	*region
}

// join puts shortest ways between the tiles, so that they hang together.
func (g growth) join() {
	list := g.tiles
	for at := range len(list) - 1 {
		g.lead(list[at], list[at+1])
	}
}

// lead puts the tiles on a shortest way between two tiles of words that are handed over.
func (g growth) lead(from, to string) {
	back := sure(words.Inverse(g.orders, from))
	way := sure(words.Times(g.orders, back, to))
	for at := range len(way) {
		from = g.beyond(api.Edge{Tile: from, Mirror: int(way[at])})
		g.put(from)
	}
}

// round puts shortest ways around corners to tiles that hang together, until there are no others.
// The tiles are convex around each corner then, and what hangs together and is convex near each of its points is convex.
func (g growth) round() {
	for at := 0; at < len(g.tiles); at++ {
		for i := range len(letters) {
			for j := range len(letters) {
				if i != j {
					g.bridge(g.tiles[at], i, j)
				}
			}
		}
	}
}

// bridge puts the tiles between a tile and the next one around its corner between i and j, over i at first, if this is a shortest way.
// No way leads around an ideal corner: tiles that hang together have those between there.
func (g growth) bridge(tile string, i, j int) {
	var way []string
	for side := range g.turn(tile, i, j) {
		if len(way) > 0 && g.has(side.Tile) {
			break
		}
		if len(way) == g.order(i, j) {
			return
		}
		way = append(way, side.Tile)
	}
	for _, between := range way {
		g.put(between)
	}
}
