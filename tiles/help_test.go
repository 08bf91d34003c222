package tiles_test

import (
	"math/rand"
	"strconv"
	"strings"
	"testing"

	"horocycle/api"
	"horocycle/tiles"
	"horocycle/words"
)

// usual are the orders of the document's examples.
func usual() api.Orders {
	return api.Orders{M01: 3, M12: 7, M02: 2}
}

// someOrders are orders of all kinds: with ideal corners and without, with right angles and without, in all places.
func someOrders() []api.Orders {
	return []api.Orders{
		{}, {M12: 2}, {M01: 3}, {M02: 4}, {M01: 3, M02: 2}, {M01: 2, M12: 3}, {M12: 3, M02: 12}, // ideal corners
		{M01: 3, M12: 7, M02: 2}, {M01: 7, M12: 3, M02: 2}, {M01: 2, M12: 3, M02: 7}, {M01: 3, M12: 2, M02: 8}, {M01: 2, M12: 6, M02: 4},
		{M01: 5, M12: 2, M02: 5}, {M01: 12, M12: 12, M02: 2}, {M01: 3, M12: 3, M02: 4}, {M01: 4, M12: 4, M02: 4}, {M01: 3, M12: 4, M02: 5}, {M01: 12, M12: 12, M02: 12},
	}
}

// allowedOrders are all orders that are allowed.
func allowedOrders() []api.Orders {
	var all []api.Orders
	for i := range 13 {
		for j := range 13 {
			for k := range 13 {
				o := api.Orders{M01: i, M12: j, M02: k}
				if _, err := words.Normal(o, ""); err == api.OK {
					all = append(all, o)
				}
			}
		}
	}
	return all
}

// eachOrders runs a check for many orders.
func eachOrders(t *testing.T, check func(t *testing.T, o api.Orders, r *rand.Rand)) {
	t.Helper()
	for i, o := range someOrders() {
		t.Run(strconv.Itoa(o.M01)+" "+strconv.Itoa(o.M12)+" "+strconv.Itoa(o.M02), func(t *testing.T) {
			t.Parallel()
			check(t, o, rand.New(rand.NewSource(int64(i))))
		})
	}
}

// meeting returns the mirrors that meet in the corner opposite to a mirror, and their order.
func meeting(o api.Orders, mirror int) (j, k string, m int) {
	switch mirror {
	case 0:
		return word("1"), word("2"), o.M12
	case 1:
		return word("0"), word("2"), o.M02
	default:
		return word("0"), word("1"), o.M01
	}
}

// word returns the word that is written with the digits 0, 1, 2.
func word(digits string) string {
	return strings.NewReplacer("0", "\x00", "1", "\x01", "2", "\x02").Replace(digits)
}

// all returns the words that are written with digits, e for the empty one, with blanks between them.
func all(digits string) []string {
	var all []string
	for _, d := range strings.Fields(digits) {
		all = append(all, word(strings.TrimPrefix(d, "e")))
	}
	return all
}

// digits returns the digits of words.
func digits(words ...string) string {
	return strings.NewReplacer("\x00", "0", "\x01", "1", "\x02", "2").Replace(strings.Join(words, " "))
}

// wordOf returns some word of so many letters.
func wordOf(r *rand.Rand, letters int) string {
	text := make([]byte, letters)
	for i := range text {
		text[i] = byte(r.Intn(3))
	}
	return string(text)
}

// anyWord returns some word of up to so many letters. Some of them are long ways along a line or around a corner.
func anyWord(r *rand.Rand, letters int) string {
	letters = r.Intn(letters + 1)
	if r.Intn(2) == 0 {
		return wordOf(r, letters)
	}
	return strings.Repeat(wordOf(r, 1+r.Intn(8)), letters)[:letters]
}

// longTile returns a normal word of as many letters as can be handed over.
func longTile(t *testing.T, o api.Orders, r *rand.Rand) string {
	t.Helper()
	tile := ""
	for len(tile) < api.MaxWord {
		if next := times(t, o, tile, wordOf(r, 1)); len(next) > len(tile) {
			tile = next
		}
	}
	return tile
}

func times(t *testing.T, o api.Orders, u, v string) string {
	t.Helper()
	n, err := words.Times(o, u, v)
	if err != api.OK {
		t.Fatalf("%v: Times of %s and %s: the error %d", o, digits(u), digits(v), err)
	}
	return n
}

func ring(t *testing.T, o api.Orders, n int) []string {
	t.Helper()
	l, err := tiles.Ring(o, n)
	if err != api.OK {
		t.Fatalf("%v: Ring %d: the error %d", o, n, err)
	}
	return l
}

func count(t *testing.T, o api.Orders, n int) uint64 {
	t.Helper()
	k, err := tiles.Count(o, n)
	if err != api.OK {
		t.Fatalf("%v: Count %d: the error %d", o, n, err)
	}
	return k
}

func series(t *testing.T, o api.Orders) (num, den []int) {
	t.Helper()
	num, den, err := tiles.Series(o)
	if err != api.OK {
		t.Fatalf("%v: Series: the error %d", o, err)
	}
	return num, den
}

func far(t *testing.T, o api.Orders, u, v string) int {
	t.Helper()
	n, err := tiles.Far(o, u, v)
	if err != api.OK {
		t.Fatalf("%v: Far of %s and %s: the error %d", o, digits(u), digits(v), err)
	}
	return n
}

func first(t *testing.T, o api.Orders, tile string, mirror int) string {
	t.Helper()
	w, err := tiles.First(o, tile, mirror)
	if err != api.OK {
		t.Fatalf("%v: First of %s and %d: the error %d", o, digits(tile), mirror, err)
	}
	return w
}

func around(t *testing.T, o api.Orders, tile string, mirror int) []string {
	t.Helper()
	l, err := tiles.Around(o, tile, mirror)
	if err != api.OK {
		t.Fatalf("%v: Around of %s and %d: the error %d", o, digits(tile), mirror, err)
	}
	return l
}

// figure are numbers of corners, sides and tiles.
type figure struct {
	corners, edges, tiles int
}

func cells(t *testing.T, o api.Orders, n int) figure {
	t.Helper()
	corners, edges, tiles, err := tiles.Cells(o, n)
	if err != api.OK {
		t.Fatalf("%v: Cells %d: the error %d", o, n, err)
	}
	return figure{corners, edges, tiles}
}
