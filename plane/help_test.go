package plane_test

import (
	"math/rand"
	"strconv"
	"strings"
	"testing"

	"horocycle/api"
	"horocycle/field"
	"horocycle/plane"
)

// someOrders are orders of all kinds: with ideal corners and without, of small and great levels and degrees.
func someOrders() []api.Orders {
	return []api.Orders{
		{}, {M12: 2}, {M01: 3, M02: 2}, {M01: 12, M12: 12}, // ideal corners
		{M01: 3, M12: 7, M02: 2}, {M01: 2, M12: 4, M02: 5}, {M01: 4, M12: 4, M02: 4}, {M01: 5, M12: 5, M02: 2},
		{M01: 3, M12: 4, M02: 5}, {M01: 5, M12: 12, M02: 12}, // the level 60
		{M01: 7, M12: 8}, {M01: 8, M12: 2, M02: 7}, // the level 56, of the greatest degree, 24
	}
}

// newWorld returns the world of orders that are allowed.
func newWorld(t *testing.T, o api.Orders) *plane.World {
	t.Helper()
	w, err := plane.New(o)
	if err != api.OK || w == nil {
		t.Fatal("no world of the orders", o, err)
	}
	return w
}

// eachWorld runs a check for many worlds.
func eachWorld(t *testing.T, check func(t *testing.T, w *plane.World, r *rand.Rand)) {
	t.Helper()
	for i, o := range someOrders() {
		t.Run(strconv.Itoa(o.M01)+" "+strconv.Itoa(o.M12)+" "+strconv.Itoa(o.M02), func(t *testing.T) {
			t.Parallel()
			check(t, newWorld(t, o), rand.New(rand.NewSource(int64(i))))
		})
	}
}

// word returns the word that is written with the digits 0, 1, 2.
func word(digits string) string {
	return strings.NewReplacer("0", "\x00", "1", "\x01", "2", "\x02").Replace(digits)
}

// digits returns the digits of a word.
func digits(word string) string {
	return strings.NewReplacer("\x00", "0", "\x01", "1", "\x02", "2").Replace(word)
}

// backward returns a word from its end to its beginning.
func backward(word string) string {
	letters := []byte(word)
	for i, j := 0, len(letters)-1; i < j; i, j = i+1, j-1 {
		letters[i], letters[j] = letters[j], letters[i]
	}
	return string(letters)
}

// anyWord returns a word of up to so many letters.
func anyWord(r *rand.Rand, letters int) string {
	text := make([]byte, r.Intn(letters+1))
	for i := range text {
		text[i] = byte(r.Intn(3))
	}
	return string(text)
}

// read returns the number of the world with a text.
func read(t *testing.T, w *plane.World, text string) field.Elem {
	t.Helper()
	x, err := w.Field().Read(text)
	if err != api.OK {
		t.Fatalf("no number of %.40q: %d", text, err)
	}
	return x
}

// rational returns the number of the world that is a fraction.
func rational(t *testing.T, w *plane.World, text string) field.Elem {
	t.Helper()
	return read(t, w, text+strings.Repeat(" 0", w.Field().Degree()-1))
}

// fractions returns three heights that are fractions.
func fractions(t *testing.T, w *plane.World, texts ...string) [3]field.Elem {
	t.Helper()
	return [3]field.Elem{rational(t, w, texts[0]), rational(t, w, texts[1]), rational(t, w, texts[2])}
}

// numbers returns three heights by their texts.
func numbers(t *testing.T, w *plane.World, texts ...string) [3]field.Elem {
	t.Helper()
	return [3]field.Elem{read(t, w, texts[0]), read(t, w, texts[1]), read(t, w, texts[2])}
}

// newPoint returns the point with heights that are those of one.
func newPoint(t *testing.T, w *plane.World, heights [3]field.Elem) plane.Point {
	t.Helper()
	p, err := w.Point(heights)
	if err != api.OK {
		t.Fatal("no point of the heights", heights[0].Text(), heights[1].Text(), heights[2].Text(), err)
	}
	return p
}

// whole returns the point with heights that are whole numbers.
func whole(t *testing.T, w *plane.World, a, b, c int64) plane.Point {
	t.Helper()
	f := w.Field()
	return newPoint(t, w, [3]field.Elem{f.Int(a), f.Int(b), f.Int(c)})
}

// middle returns the middle of the first tile.
func middle(t *testing.T, w *plane.World) plane.Point {
	t.Helper()
	m, err := w.Middle()
	if err != api.OK {
		t.Fatal("no middle", err)
	}
	return m
}

// inside returns some point of the first tile, within it or on its border.
func inside(t *testing.T, w *plane.World, r *rand.Rand) plane.Point {
	t.Helper()
	f := w.Field()
	var x [3]field.Elem
	for i := range x {
		x[i] = f.Int(int64(r.Intn(5)))
		if r.Intn(2) == 0 {
			x[i] = must(t)(x[i].Add(must(t)(f.Cos(r.Intn(f.Level()/2 + 1)).Mul(f.Int(int64(r.Intn(3)))))))
		}
	}
	x[0] = must(t)(x[0].Add(f.Int(1)))
	x[1] = must(t)(x[1].Add(f.Int(1)))
	return newPoint(t, w, x)
}

// must returns a function that returns numbers that are not errors.
func must(t *testing.T) func(x field.Elem, err api.Errno) field.Elem {
	t.Helper()
	return func(x field.Elem, err api.Errno) field.Elem {
		t.Helper()
		if err != api.OK {
			t.Fatal("no number", err)
		}
		return x
	}
}

// move returns where a point comes to.
func move(t *testing.T, w *plane.World, word string, p plane.Point) plane.Point {
	t.Helper()
	q, err := w.Move(word, p)
	if err != api.OK {
		t.Fatalf("%s: the move of %s: %d", digits(word), text(p), err)
	}
	return q
}

// text returns the texts of the heights of a point.
func text(p plane.Point) string {
	x := p.Heights()
	return x[0].Text() + ", " + x[1].Text() + ", " + x[2].Text()
}

// noPoint checks that a result is that of an error.
func noPoint(t *testing.T, what string, p plane.Point, err, want api.Errno) {
	t.Helper()
	if err != want || p != (plane.Point{}) {
		t.Errorf("%s: %.40s with the error %d, want the error %d", what, text(p), err, want)
	}
}

func cmpDist(t *testing.T, w *plane.World, p, q, r, s plane.Point) int {
	t.Helper()
	sign, err := w.CmpDist(p, q, r, s)
	if err != api.OK {
		t.Fatal("CmpDist", err)
	}
	return sign
}

func same(t *testing.T, w *plane.World, p, q plane.Point) bool {
	t.Helper()
	is, err := w.Same(p, q)
	if err != api.OK {
		t.Fatal("Same", err)
	}
	return is
}

func side(t *testing.T, w *plane.World, e api.Edge, p plane.Point) int {
	t.Helper()
	sign, err := w.Side(e, p)
	if err != api.OK {
		t.Fatal("Side", err)
	}
	return sign
}

func fold(t *testing.T, w *plane.World, p plane.Point) (string, plane.Point) {
	t.Helper()
	tile, first, err := w.Fold(p)
	if err != api.OK {
		t.Fatal("Fold", err)
	}
	return tile, first
}

func kind(t *testing.T, w *plane.World, word string) int {
	t.Helper()
	k, err := w.Kind(word)
	if err != api.OK {
		t.Fatal("Kind", err)
	}
	return k
}

func trace(t *testing.T, w *plane.World, word string) string {
	t.Helper()
	x, err := w.Trace(word)
	if err != api.OK {
		t.Fatal("Trace", err)
	}
	return x.Text()
}

func cmpShift(t *testing.T, w *plane.World, u, v string) int {
	t.Helper()
	sign, err := w.CmpShift(u, v)
	if err != api.OK {
		t.Fatalf("CmpShift of %s and %s: %d", digits(u), digits(v), err)
	}
	return sign
}
