package poly_test

import (
	"math/rand"
	"slices"
	"strconv"
	"strings"
	"testing"

	"horocycle/api"
	"horocycle/poly"
	"horocycle/words"
)

// usual are the orders of the document's examples.
func usual() api.Orders {
	return api.Orders{M01: 3, M12: 7, M02: 2}
}

// someOrders are orders of all kinds: with ideal corners and without, with right angles and without, in all places.
func someOrders() []api.Orders {
	return []api.Orders{
		{}, {M12: 2}, {M01: 3}, {M02: 4}, {M01: 3, M02: 2}, {M01: 2, M12: 3}, {M12: 3, M02: 2}, {M12: 3, M02: 12}, // ideal corners
		{M01: 3, M12: 7, M02: 2}, {M01: 7, M12: 3, M02: 2}, {M01: 2, M12: 3, M02: 7}, {M01: 3, M12: 2, M02: 8}, {M01: 2, M12: 6, M02: 4},
		{M01: 5, M12: 2, M02: 5}, {M01: 12, M12: 12, M02: 2}, {M01: 3, M12: 3, M02: 4}, {M01: 4, M12: 4, M02: 4}, {M01: 3, M12: 4, M02: 5}, {M01: 12, M12: 12, M02: 12},
	}
}

// eachOrders runs a check for many orders.
func eachOrders(t *testing.T, check func(t *testing.T, o api.Orders, r *rand.Rand)) {
	t.Helper()
	for i, o := range someOrders() {
		t.Run(strconv.Itoa(o.M01)+" "+strconv.Itoa(o.M12)+" "+strconv.Itoa(o.M02), func(t *testing.T) {
			t.Parallel()
			check(t, o, rand.New(rand.NewSource(int64(i))))
		})
	}
}

// between returns the order of the corner between two different mirrors.
func between(o api.Orders, i, j int) int {
	return [3][3]int{{0, o.M01, o.M02}, {o.M01, 0, o.M12}, {o.M02, o.M12, 0}}[i][j]
}

// word returns the word that is written with the digits 0, 1, 2, and e for the empty one.
func word(digits string) string {
	return strings.NewReplacer("0", "\x00", "1", "\x01", "2", "\x02", "e", "").Replace(digits)
}

// digits returns the digits of a word, e for the empty one.
func digits(word string) string {
	if word == "" {
		return "e"
	}
	return strings.NewReplacer("\x00", "0", "\x01", "1", "\x02", "2").Replace(word)
}

// all returns the words that are written with blanks between them.
func all(text string) []string {
	var all []string
	for _, d := range strings.Fields(text) {
		all = append(all, word(d))
	}
	return all
}

// text returns words, written with blanks between them.
func text(words []string) string {
	var out []string
	for _, w := range words {
		out = append(out, digits(w))
	}
	return strings.Join(out, " ")
}

// edgeText returns an edge, written as its tile, a colon and its mirror.
func edgeText(e api.Edge) string {
	return digits(e.Tile) + ":" + strconv.Itoa(e.Mirror)
}

// borderText returns edges, written with blanks between them.
func borderText(edges []api.Edge) string {
	var out []string
	for _, e := range edges {
		out = append(out, edgeText(e))
	}
	return strings.Join(out, " ")
}

// cornersText returns corners, each written as its angle, an @ and its edge, with blanks between them.
func cornersText(corners []api.Corner) string {
	var out []string
	for _, c := range corners {
		out = append(out, fracText(c.Angle)+"@"+edgeText(c.Edge))
	}
	return strings.Join(out, " ")
}

func fracText(f api.Frac) string {
	return strconv.Itoa(f.Num) + "/" + strconv.Itoa(f.Den)
}

// letter returns the letter of a mirror.
func letter(mirror int) string {
	return string([]byte{byte(mirror)})
}

// turns returns the word i j i j .. of so many letters.
func turns(i, j, letters int) string {
	return strings.Repeat(letter(i)+letter(j), letters)[:letters]
}

// wordOf returns some word of so many letters.
func wordOf(r *rand.Rand, letters int) string {
	text := make([]byte, letters)
	for i := range text {
		text[i] = byte(r.Intn(3))
	}
	return string(text)
}

// longTile returns a normal word of so many letters.
func longTile(t *testing.T, o api.Orders, r *rand.Rand, letters int) string {
	t.Helper()
	tile := ""
	for len(tile) < letters {
		if next := times(t, o, tile, wordOf(r, 1)); len(next) > len(tile) {
			tile = next
		}
	}
	return tile
}

func times(t *testing.T, o api.Orders, u, v string) string {
	t.Helper()
	n, err := words.Times(o, u, v)
	if err != api.OK {
		t.Fatalf("%v: Times of %s and %s: the error %d", o, digits(u), digits(v), err)
	}
	return n
}

// moved returns tiles, moved by a word.
func moved(t *testing.T, o api.Orders, by string, tiles []string) []string {
	t.Helper()
	var out []string
	for _, tile := range tiles {
		out = append(out, times(t, o, by, tile))
	}
	return out
}

// far returns how many mirrors lie between two tiles.
func far(t *testing.T, o api.Orders, u, v string) int {
	t.Helper()
	back, err := words.Inverse(o, u)
	if err != api.OK {
		t.Fatalf("%v: Inverse of %s: the error %d", o, digits(u), err)
	}
	return len(times(t, o, back, v))
}

// sorted returns tiles in their order.
func sorted(tiles []string) []string {
	out := slices.Clone(tiles)
	slices.SortFunc(out, func(u, v string) int {
		if len(u) != len(v) {
			return len(u) - len(v)
		}
		return strings.Compare(u, v)
	})
	return out
}

func polygon(t *testing.T, o api.Orders, tiles []string) *poly.Polygon {
	t.Helper()
	p, err := poly.New(o, tiles)
	if err != api.OK {
		t.Fatalf("%v: New of %s: the error %d", o, text(tiles), err)
	}
	return p
}

func hull(t *testing.T, o api.Orders, tiles []string) *poly.Polygon {
	t.Helper()
	p, err := poly.Hull(o, tiles)
	if err != api.OK {
		t.Fatalf("%v: Hull of %s: the error %d", o, text(tiles), err)
	}
	return p
}

// grown returns some tiles that hang together, up to so many of them, at a tile.
func grown(t *testing.T, o api.Orders, r *rand.Rand, at string, most int) []string {
	t.Helper()
	tiles := []string{at}
	for range r.Intn(most) {
		next := times(t, o, tiles[r.Intn(len(tiles))], wordOf(r, 1))
		if !slices.Contains(tiles, next) {
			tiles = append(tiles, next)
		}
	}
	return tiles
}
