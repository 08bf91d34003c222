package tiles

import (
	"iter"
	"strings"

	"horocycle/api"
	"horocycle/words"
)

// letters are all letters: those of the mirrors 0, 1 and 2.
const letters = "\x00\x01\x02"

// letter returns the letter of a mirror.
func letter(mirror int) string {
	return letters[mirror : mirror+1]
}

// world is the plane with its tiles. Its orders are allowed.
type world struct {
	api.Orders
}

// times returns the normal word of the tile to which some letters lead from a tile. Both words are short enough to be handed over, so that there is no error.
func (w world) times(tile, way string) string {
	word, _ := words.Times(w.Orders, tile, way)
	return word
}

// rings yields the rings 0 to n, each in order.
func (w world) rings(n int) iter.Seq[[]string] {
	return func(yield func([]string) bool) {
		ring := []string{""}
		for range n {
			if !yield(ring) {
				return
			}
			ring = w.next(ring)
		}
		yield(ring)
	}
}

// next returns the ring behind a ring. Each beginning of a normal word is normal (P3.4), so that the words that go on by a letter are all of its words, each of them once, and in order.
func (w world) next(ring []string) []string {
	var next []string
	for _, tile := range ring {
		for mirror := range len(letters) {
			word := tile + letter(mirror)
			if w.times(word, "") == word {
				next = append(next, word)
			}
		}
	}
	return next
}

// corner is a corner that all tiles have, opposite to one of their sides.
type corner struct {
	world
	sides string // the other two sides, which meet there
	order int
}

// corner returns the corner opposite to a mirror.
func (w world) corner(mirror int) corner {
	return [3]corner{
		{w, letter(1) + letter(2), w.M12},
		{w, letter(0) + letter(2), w.M02},
		{w, letter(0) + letter(1), w.M01},
	}[mirror]
}

// first returns the first tile around the corner of a tile: over the two sides in turns it comes nearer and nearer; just from the first tile both lead farther.
func (c corner) first(tile string) string {
	at := 0
	for farther := 0; farther < len(c.sides); at = 1 - at {
		next := c.times(tile, c.sides[at:at+1])
		if len(next) < len(tile) {
			tile, farther = next, 1 // back is farther
		} else {
			farther++
		}
	}
	return tile
}

// around returns the tiles around the corner of the first one of them.
func (c corner) around(first string) []string {
	turns := strings.Repeat(c.sides, c.order)
	tiles := make([]string, len(turns))
	for at := range tiles {
		tiles[at] = c.times(first, turns[:at])
	}
	return tiles
}
