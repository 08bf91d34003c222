package plane_test

import (
	"math"
	"math/rand"
	"strings"
	"testing"

	"horocycle/api"
	"horocycle/field"
	"horocycle/plane"
)

// P2.5: the sides of mirrors of tiles.
func TestSide(t *testing.T) {
	w := newWorld(t, api.Orders{})
	for _, c := range []struct {
		tile   string
		mirror int
		point  [3]int64
		want   int
	}{
		{"", 0, [3]int64{1, 1, 1}, 1},
		{"", 0, [3]int64{-1, 3, 3}, -1},
		{"", 1, [3]int64{-1, 3, 3}, 1},
		{"", 2, [3]int64{-1, 3, 3}, 1},
		{"", 0, [3]int64{0, 1, 1}, 0},
		{"", 2, [3]int64{1, 1, 0}, 0},
		{"0", 0, [3]int64{-1, 3, 3}, 1},
		{"0", 0, [3]int64{1, 1, 1}, -1},
		{"0", 0, [3]int64{0, 1, 1}, 0},
		{"0", 1, [3]int64{1, 1, 1}, 1},
		// The point of the tile 01, behind its mirror 1 the tile 0; behind its mirror 0 the tile 010.
		{"01", 0, [3]int64{-3, 5, 9}, 1},
		{"0", 1, [3]int64{-3, 5, 9}, -1},
		{"0", 2, [3]int64{-3, 5, 9}, 1},
		{"10", 0, [3]int64{-3, 5, 9}, -1},
		{"00", 0, [3]int64{-1, 3, 3}, -1}, // any word of the tile
	} {
		if got := side(t, w, api.Edge{Tile: word(c.tile), Mirror: c.mirror}, whole(t, w, c.point[0], c.point[1], c.point[2])); got != c.want {
			t.Errorf("the side of the mirror %d of %s with %v is %d", c.mirror, c.tile, c.point, got)
		}
	}
	// A side is the sign of a height of the point that is moved back.
	eachWorld(t, func(t *testing.T, w *plane.World, r *rand.Rand) {
		for range 10 {
			tile, p := anyWord(r, 6), move(t, w, anyWord(r, 6), inside(t, w, r))
			back := move(t, w, backward(tile), p).Heights()
			for mirror := range 3 {
				if got := side(t, w, api.Edge{Tile: tile, Mirror: mirror}, p); got != back[mirror].Sign() {
					t.Errorf("%v: the side of the mirror %d of %s with %s is %d", w.Orders(), mirror, digits(tile), text(p), got)
				}
			}
		}
	})
}

// P2.6: where points are folded.
func TestFold(t *testing.T) {
	for _, c := range []struct {
		orders      api.Orders
		point       string
		tile, first string
	}{
		{api.Orders{}, "1, 2, 3", "", "1, 2, 3"},
		{api.Orders{}, "0, 1, 1", "", "0, 1, 1"},
		{api.Orders{}, "1, 1, 0", "", "1, 1, 0"},
		{api.Orders{}, "-1, 4, 4", "0", "1, 2, 2"},
		{api.Orders{}, "-1, 3, 3", "0", "1, 1, 1"},
		{api.Orders{}, "3, -1, 3", "1", "1, 1, 1"},
		{api.Orders{}, "-3, 5, 9", "01", "1, 1, 1"},
		{api.Orders{}, "-9, 15, 23", "012", "1, 1, 1"},
		{api.Orders{}, "4, -2, 8", "1", "0, 1, 2"}, // a point on a mirror of two tiles
		{api.Orders{M01: 4, M12: 4, M02: 4}, "-1 0, 1 1, 1 1", "0", "1 0, 1 0, 1 0"},
		{api.Orders{M01: 4, M12: 4, M02: 4}, "-1 0, 0 -1, 9 4", "0101", "1 0, 0 1, 3 0"}, // of 0101 and 1010 the first one
	} {
		w := newWorld(t, c.orders)
		tile, first := fold(t, w, newPoint(t, w, numbers(t, w, strings.Split(c.point, ", ")...)))
		if digits(tile) != c.tile || text(first) != c.first {
			t.Errorf("%v: %s is folded to %s, %s", c.orders, c.point, digits(tile), text(first))
		}
	}
}

// P2.6: a point that lies in several tiles is folded to the nearest one.
func TestFoldBorder(t *testing.T) {
	eachWorld(t, func(t *testing.T, w *plane.World, r *rand.Rand) {
		for mirror := range 3 {
			p, err := w.Corner(mirror)
			if err != api.OK {
				continue
			}
			// Around the corner the words of the other two mirrors lead.
			j, k := byte((mirror+1)%3), byte((mirror+2)%3)
			for _, around := range []string{"", string([]byte{j}), string([]byte{k, j}), string([]byte{j, k, j})} {
				q := move(t, w, around, p)
				if tile, first := fold(t, w, q); tile != "" || text(first) != text(p) || text(q) != text(p) {
					t.Errorf("%v: the corner %d is folded to %s, %s", w.Orders(), mirror, digits(tile), text(first))
				}
			}
			// The tile of the mirror, too, has a corner on the other side.
			over := move(t, w, string([]byte{byte(mirror)}), p)
			tile, first := fold(t, w, over)
			if tile != string([]byte{byte(mirror)}) || text(first) != text(p) {
				t.Errorf("%v: behind the mirror %d: %s, %s", w.Orders(), mirror, digits(tile), text(first))
			}
		}
	})
}

// P2.6: as many letters as MaxFold, and one more.
func TestFoldFull(t *testing.T) {
	w := newWorld(t, api.Orders{})
	p := middle(t, w)
	for range api.MaxFold / 50 {
		p = move(t, w, strings.Repeat(word("01"), 25), p)
	}
	if tile, first := fold(t, w, p); tile != strings.Repeat(word("01"), api.MaxFold/2) || text(first) != "1, 1, 1" {
		t.Error(len(tile), text(first))
	}
	tile, first, err := w.Fold(move(t, w, word("1"), p))
	if tile != "" {
		t.Error(len(tile))
	}
	noPoint(t, "one letter more", first, err, api.ErrFull)
	// Near an ideal corner points of small heights are as far: each letter brings the heights 1 and 1 by 2 farther away.
	const letters = api.MaxFold
	for _, c := range []struct {
		x    [3]int64
		want api.Errno
	}{
		{[3]int64{1 - 2*letters, 1 + 2*letters, 1 << 40}, api.OK},
		{[3]int64{1 + 2*letters, 1 - 2*letters, 1 << 40}, api.OK},
		{[3]int64{-1 - 2*letters, 3 + 2*letters, 1 << 40}, api.ErrFull},
		{[3]int64{1 - 1<<30, 1 + 1<<30, 1 << 62}, api.ErrFull},
	} {
		tile, _, err := w.Fold(whole(t, w, c.x[0], c.x[1], c.x[2]))
		if err != c.want || len(tile) != letters && err == api.OK {
			t.Errorf("%v: %d letters, %d", c.x, len(tile), err)
		}
	}
}

// P2.7: distances.
func TestCmpDist(t *testing.T) {
	w := newWorld(t, api.Orders{})
	m := [3]int64{1, 1, 1}
	for _, c := range []struct {
		p, q, r, s [3]int64
		want       int
	}{
		{m, [3]int64{-1, 3, 3}, m, [3]int64{1, 2, 2}, 1},
		{m, [3]int64{1, 2, 2}, m, [3]int64{-1, 3, 3}, -1},
		{m, m, m, [3]int64{1, 2, 2}, -1},
		{m, m, [3]int64{1, 2, 2}, [3]int64{1, 2, 2}, 0},
		{m, [3]int64{1, 1, 2}, m, [3]int64{2, 1, 1}, 0},
		{m, [3]int64{1, 1, 2}, [3]int64{1, 1, 2}, m, 0},
		{m, [3]int64{-1, 3, 3}, [3]int64{3, 3, -1}, m, 0},
		{[3]int64{0, 1, 1}, [3]int64{1, 0, 1}, [3]int64{1, 1, 0}, [3]int64{0, 1, 1}, 0},
		{[3]int64{0, 1, 1}, [3]int64{1, 0, 1}, [3]int64{1, 1, 0}, [3]int64{0, 1000, 1001}, -1},
		{[3]int64{0, 1, 1}, [3]int64{1, 0, 1}, [3]int64{1, 1, 0}, [3]int64{0, 1000, 999}, 1},
	} {
		points := [4]plane.Point{}
		for i, x := range [][3]int64{c.p, c.q, c.r, c.s} {
			points[i] = whole(t, w, x[0], x[1], x[2])
		}
		if got := cmpDist(t, w, points[0], points[1], points[2], points[3]); got != c.want {
			t.Errorf("CmpDist of %v, %v, %v, %v is %d", c.p, c.q, c.r, c.s, got)
		}
	}
	// The other worlds, by numbers that are rounded.
	eachWorld(t, func(t *testing.T, w *plane.World, r *rand.Rand) {
		decided := 0
		for range 20 {
			points, x := [4]plane.Point{}, [4][3]int64{}
			for i := range x {
				x[i] = [3]int64{1 + r.Int63n(20), 1 + r.Int63n(20), r.Int63n(20)}
				points[i] = whole(t, w, x[i][0], x[i][1], x[i][2])
			}
			got, near, far := cmpDist(t, w, points[0], points[1], points[2], points[3]), distance(w, x[0], x[1]), distance(w, x[2], x[3])
			if math.Abs(near-far) > 1e-6 {
				decided++
				if (got == 1) != (near > far) || got == 0 {
					t.Errorf("%v: the distances of %v are %f, %f: %d", w.Orders(), x, near, far, got)
				}
			}
		}
		if decided < 10 {
			t.Errorf("%v: %d distances only", w.Orders(), decided)
		}
	})
}

// distance returns what grows with the distance of two points, with rounding.
func distance(w *plane.World, x, y [3]int64) float64 {
	n := func(a [3]int64, b float64, c [3]int64, d float64) float64 {
		return norm(w, float64(a[0])*b+float64(c[0])*d, float64(a[1])*b+float64(c[1])*d, float64(a[2])*b+float64(c[2])*d)
	}
	both := (n(x, 1, y, 1) - n(x, 1, y, -1)) / 4
	return both * both / n(x, 1, y, 0) / n(x, 0, y, 1)
}

// P2.7: the order of distances of points with heights that are just small is told, however close they are.
func TestCmpDistLong(t *testing.T) {
	nines, near := strings.Repeat("9", 60), strings.Repeat("9", 59)+"8"
	eachWorld(t, func(t *testing.T, w *plane.World, _ *rand.Rand) {
		fill := func(text string) string { return strings.Repeat(" "+text, w.Field().Degree())[1:] }
		one := rational(t, w, "1").Text()
		x := [3]string{fill(nines), fill(near), fill(nines)}
		p, q := newPoint(t, w, numbers(t, w, x[0], x[1], x[2])), newPoint(t, w, numbers(t, w, x[1], x[0], x[2]))
		r := newPoint(t, w, numbers(t, w, x[1], one, x[0]))
		if cmpDist(t, w, p, q, q, p) != 0 || cmpDist(t, w, p, p, r, r) != 0 || cmpDist(t, w, p, r, r, p) != 0 {
			t.Errorf("%v: distances that are the same", w.Orders())
		}
		if cmpDist(t, w, p, q, q, r) != -1 || cmpDist(t, w, p, r, p, q) != 1 {
			t.Errorf("%v: distances that are not the same", w.Orders())
		}
		if same(t, w, p, q) || !same(t, w, r, r) {
			t.Errorf("%v: points that are the same", w.Orders())
		}
	})
}

// P2.8: corners and the middle.
func TestCorner(t *testing.T) {
	eachWorld(t, func(t *testing.T, w *plane.World, _ *rand.Rand) {
		o := w.Orders()
		zero, one := w.Field().Int(0).Text(), w.Field().Int(1).Text()
		for mirror, order := range []int{o.M12, o.M02, o.M01} {
			p, err := w.Corner(mirror)
			if order == 0 {
				noPoint(t, "an ideal corner", p, err, api.ErrOut)
				continue
			}
			want := [3]string{zero, zero, zero}
			want[mirror] = one
			if err != api.OK || text(p) != strings.Join(want[:], ", ") {
				t.Errorf("%v: the corner %d: %s, %d", o, mirror, text(p), err)
			}
		}
		if got := text(middle(t, w)); got != one+", "+one+", "+one {
			t.Errorf("%v: the middle %s", o, got)
		}
	})
}

// P2.9: traces and kinds.
func TestKind(t *testing.T) {
	ideal, square, seven := api.Orders{}, api.Orders{M01: 4, M12: 4, M02: 4}, api.Orders{M01: 3, M12: 7, M02: 2}
	for _, c := range []struct {
		orders      api.Orders
		word, trace string
		kind        int
	}{
		{ideal, "", "3", api.Rest},
		{ideal, "0", "1", api.Mirror},
		{ideal, "01", "3", api.Limit},
		{ideal, "10", "3", api.Limit},
		{ideal, "0101", "3", api.Limit},
		{ideal, "012", "17", api.Glide},
		{ideal, "0102", "35", api.Shift},
		{ideal, "010", "1", api.Mirror},
		{ideal, "00", "3", api.Rest},
		{ideal, "0110", "3", api.Rest},
		{ideal, "0112", "3", api.Limit},
		{ideal, "012012", "323", api.Shift},
		{square, "01", "1 0", api.Turn}, // a quarter turn has the trace 1 + 2 cos (pi / 2)
		{square, "0101", "-1 0", api.Turn},
		{square, "01010101", "3 0", api.Rest},
		{square, "01010", "1 0", api.Mirror},
		{square, "0101010", "1 0", api.Mirror},
		{square, "012", "3 2", api.Glide},
	} {
		w := newWorld(t, c.orders)
		if got := trace(t, w, word(c.word)); got != c.trace {
			t.Errorf("%v: the trace of %s is %s", c.orders, c.word, got)
		}
		if got := kind(t, w, word(c.word)); got != c.kind {
			t.Errorf("%v: the kind of %s is %d", c.orders, c.word, got)
		}
	}
	w := newWorld(t, seven)
	for text, want := range map[string]int{"02": api.Turn, "0202": api.Rest, "12": api.Turn, strings.Repeat("12", 7): api.Rest, strings.Repeat("12", 8): api.Turn, "010101": api.Rest,
		"012": api.Glide, "010": api.Mirror, "0101": api.Turn, "020": api.Mirror, strings.Repeat("012", 20): api.Shift, strings.Repeat("012", 19): api.Glide} {
		if got := kind(t, w, word(text)); got != want {
			t.Errorf("the kind of %s is %d, want %d", text, got, want)
		}
	}
}

// P2.9: the turn about a corner of the order m has the trace 1 + 2 cos (2 k pi / m) behind 2 k letters; it is rest behind 2 m.
func TestTurns(t *testing.T) {
	eachWorld(t, func(t *testing.T, w *plane.World, _ *rand.Rand) {
		o, f := w.Orders(), w.Field()
		for pair, order := range map[string]int{"01": o.M01, "12": o.M12, "20": o.M02} {
			for k := 1; k <= 15; k++ {
				around, want, cosine := strings.Repeat(word(pair), k), api.Turn, f.Int(2)
				switch {
				case order == 0:
					want = api.Limit
				case k%order == 0:
					want = api.Rest
				default:
					cosine = f.Cos(2 * k * f.Level() / order)
				}
				if got := kind(t, w, around); got != want {
					t.Errorf("%v: the kind of %s is %d, want %d", o, digits(around), got, want)
				}
				if got := trace(t, w, around); got != must(t)(cosine.Add(f.Int(1))).Text() {
					t.Errorf("%v: the trace of %s is %s", o, digits(around), got)
				}
			}
		}
	})
}

// P2.9, P2.12: the word 012 is a glide, and its powers shift by as many times the length: their traces are told by the first one.
func TestPowers(t *testing.T) {
	eachWorld(t, func(t *testing.T, w *plane.World, _ *rand.Rand) {
		f := w.Field()
		glide, err := w.Trace(word("012"))
		if err != api.OK {
			t.Fatal(err)
		}
		first := must(t)(glide.Add(f.Int(1)))
		last, now := f.Int(2), first // 2 cosh n l, for the powers n
		for n := 1; n <= api.MaxWord/3; n++ {
			power, want, sign := strings.Repeat(word("012"), n), api.Shift, int64(1)
			if n%2 == 1 {
				want, sign = api.Glide, -1
			}
			if got := kind(t, w, power); got != want {
				t.Errorf("%v: the kind of %s is %d", w.Orders(), digits(power), got)
			}
			if got := trace(t, w, power); got != must(t)(now.Add(f.Int(sign))).Text() {
				t.Errorf("%v: the trace of %s is %s", w.Orders(), digits(power), got)
			}
			last, now = now, must(t)(must(t)(first.Mul(now)).Sub(last))
		}
	})
}

// P2.10: lengths of shifts.
func TestCmpShift(t *testing.T) {
	w := newWorld(t, api.Orders{})
	for _, c := range []struct {
		u, v string
		want int
	}{
		{"012", "0102", -1},
		{"0102", "012", 1},
		{"012012", "012", 1},
		{"012012", "0102", 1},
		{"012", "120", 0},
		{"012", "210", 0},
		{"0102", "2010", 0},
		{"0102", "0121", 0}, // the triangle is the same with other numbers of its mirrors
		{"012012", "201201", 0},
	} {
		if got := cmpShift(t, w, word(c.u), word(c.v)); got != c.want {
			t.Errorf("CmpShift of %s and %s is %d", c.u, c.v, got)
		}
	}
	for _, c := range [][2]string{{"0", "012"}, {"012", "0"}, {"", "012"}, {"01", "0102"}, {"012", "01"}, {"0102", "00"}, {"1", "2"}, {"010", "012"}} {
		if sign, err := w.CmpShift(word(c[0]), word(c[1])); sign != 0 || err != api.ErrArg {
			t.Errorf("CmpShift of %s and %s: %d, %d", c[0], c[1], sign, err)
		}
	}
	v := newWorld(t, api.Orders{M01: 4, M12: 4, M02: 4})
	for _, text := range []string{"01", "0101", "01010101"} { // Turn, Turn, Rest
		if sign, err := v.CmpShift(word("012"), word(text)); sign != 0 || err != api.ErrArg {
			t.Errorf("CmpShift of %s: %d, %d", text, sign, err)
		}
	}
}

// roundedTrace returns the trace of a word, with rounding.
func roundedTrace(w *plane.World, word string) float64 {
	o := w.Orders()
	cosine := func(i, j int) float64 {
		order := [4]int{0, o.M01, o.M02, o.M12}[i+j]
		if order == 0 {
			return 2
		}
		return 2 * math.Cos(math.Pi/float64(order))
	}
	sum := 0.0
	for start := range 3 {
		x := [3]float64{}
		x[start] = 1
		for at := len(word) - 1; at >= 0; at-- {
			i := int(word[at])
			for j := range 3 {
				if j != i {
					x[j] += cosine(i, j) * x[i]
				}
			}
			x[i] = -x[i]
		}
		sum += x[start]
	}
	return sum
}

// P2.9, P2.10: traces, and lengths of shifts and glides, by numbers that are rounded.
func TestRounded(t *testing.T) {
	eachWorld(t, func(t *testing.T, w *plane.World, _ *rand.Rand) {
		var moving []string
		var lengths []float64
		shortest(5, func(word string) {
			x, sign := roundedTrace(w, word), 1-2*float64(len(word)%2)
			text, err := w.Trace(word)
			if floor, bad := text.Floor(); err != api.OK || bad != api.OK || float64(floor) > x+1e-6 || float64(floor) < x-1-1e-6 {
				t.Errorf("%v: the trace of %s is %s, not %f", w.Orders(), digits(word), text.Text(), x)
			}
			if kind(t, w, word) >= api.Shift && len(moving) < 60 {
				moving, lengths = append(moving, word), append(lengths, math.Acosh((x-sign)/2))
			}
		})
		mixed := false // whether the traces of a shift and a glide are in another order than their lengths
		for i, u := range moving {
			for j, v := range moving[:i] {
				want := 0
				if math.Abs(lengths[i]-lengths[j]) > 1e-6 {
					want = int(math.Copysign(1, lengths[i]-lengths[j]))
				}
				if got := cmpShift(t, w, u, v); got != want {
					t.Errorf("%v: the shifts of %s and %s are %f and %f: %d", w.Orders(), digits(u), digits(v), lengths[i], lengths[j], got)
				}
				if want != 0 && (lengths[i] > lengths[j]) != (roundedTrace(w, u) > roundedTrace(w, v)) {
					mixed = true
				}
			}
		}
		if o := w.Orders(); !mixed && o.M02 == 5 {
			t.Errorf("%v: no shifts and glides that are told apart by their numbers of letters", o)
		}
	})
}

// P2.3: errors of all functions, in their order.
func TestErrors(t *testing.T) {
	w, v := newWorld(t, api.Orders{}), newWorld(t, api.Orders{M01: 3})
	p, q, none := middle(t, w), middle(t, v), plane.Point{}
	bad, worse, long := "\x03", strings.Repeat("3", api.MaxWord+1), strings.Repeat("\x00", api.MaxWord+1)
	type calls map[string]func() (bool, api.Errno)
	// all are the functions with a world, a word, a mirror and points; each tells whether its result is zero.
	all := func(w *plane.World, word string, mirror int, p, q plane.Point) calls {
		return calls{
			"Move": func() (bool, api.Errno) { r, err := w.Move(word, p); return r == none, err },
			"Side": func() (bool, api.Errno) {
				r, err := w.Side(api.Edge{Tile: word, Mirror: mirror}, p)
				return r == 0, err
			},
			"Fold":      func() (bool, api.Errno) { tile, r, err := w.Fold(p); return tile == "" && r == none, err },
			"Same":      func() (bool, api.Errno) { r, err := w.Same(p, q); return !r, err },
			"Same2":     func() (bool, api.Errno) { r, err := w.Same(q, p); return !r, err },
			"CmpDist":   func() (bool, api.Errno) { r, err := w.CmpDist(p, q, q, q); return r == 0, err },
			"CmpDist2":  func() (bool, api.Errno) { r, err := w.CmpDist(q, p, q, q); return r == 0, err },
			"CmpDist3":  func() (bool, api.Errno) { r, err := w.CmpDist(q, q, p, q); return r == 0, err },
			"CmpDist4":  func() (bool, api.Errno) { r, err := w.CmpDist(q, q, q, p); return r == 0, err },
			"Corner":    func() (bool, api.Errno) { r, err := w.Corner(mirror); return r == none, err },
			"Middle":    func() (bool, api.Errno) { r, err := w.Middle(); return r == none, err },
			"Trace":     func() (bool, api.Errno) { r, err := w.Trace(word); return r == field.Elem{}, err },
			"Kind":      func() (bool, api.Errno) { r, err := w.Kind(word); return r == 0, err },
			"CmpShift":  func() (bool, api.Errno) { r, err := w.CmpShift(word, "\x00\x01\x02"); return r == 0, err },
			"CmpShift2": func() (bool, api.Errno) { r, err := w.CmpShift("\x00\x01\x02", word); return r == 0, err },
		}
	}
	points, words, mirrors := "Move Side Fold Same Same2 CmpDist CmpDist2 CmpDist3 CmpDist4", "Move Side Trace Kind CmpShift CmpShift2", "Side Corner"
	everything := points + " " + words + " " + mirrors + " Middle"
	for _, c := range []struct {
		calls calls
		names string
		want  api.Errno
	}{
		{all(nil, "", 0, p, p), everything, api.ErrArg},
		{all(&plane.World{}, long, 3, q, none), everything, api.ErrArg},
		{all(w, "", 0, none, p), points, api.ErrArg},
		{all(w, long, 3, none, q), points, api.ErrArg},
		{all(w, "", 0, none, none), points, api.ErrArg},
		{all(w, bad, 0, p, p), words, api.ErrArg},
		{all(w, worse, 0, p, p), words, api.ErrArg},
		{all(w, long[1:]+bad+long, 0, p, p), words, api.ErrArg},
		{all(w, "\xff", 0, p, p), words, api.ErrArg},
		{all(w, "012", 0, p, p), words, api.ErrArg},
		{all(w, bad, 3, q, q), words, api.ErrArg},
		{all(w, long, 0, p, p), words, api.ErrFull},
		{all(w, long, 3, q, q), words, api.ErrFull},
		{all(w, "", 3, p, p), mirrors, api.ErrArg},
		{all(w, "", -1, p, p), mirrors, api.ErrArg},
		{all(w, "", math.MinInt, q, q), mirrors, api.ErrArg},
		{all(w, "", math.MaxInt, q, q), mirrors, api.ErrArg},
		{all(w, "", 0, q, p), points, api.ErrField},
		{all(v, "", 0, p, q), points, api.ErrField},
		{all(w, long[1:], 0, q, q), points, api.ErrField},
	} {
		for _, name := range strings.Fields(c.names) {
			if zero, err := c.calls[name](); !zero || err != c.want {
				t.Errorf("%s: zero %v, %d, want %d", name, zero, err, c.want)
			}
		}
	}
	// Of two words the first one counts.
	if _, err := w.CmpShift(long, bad); err != api.ErrFull {
		t.Error(err)
	}
	if _, err := w.CmpShift(bad, long); err != api.ErrArg {
		t.Error(err)
	}
	if _, err := w.CmpShift("\x00", long); err != api.ErrFull {
		t.Error(err)
	}
}

// P2.2, P2.3: the errors of Point, in their order.
func TestPointErrors(t *testing.T) {
	w, v, none := newWorld(t, api.Orders{}), newWorld(t, api.Orders{M01: 3}), field.Elem{}
	one, other, zero := w.Field().Int(1), v.Field().Int(1), w.Field().Int(0)
	long := rational(t, w, strings.Repeat("9", 61))
	for _, c := range []struct {
		w       *plane.World
		heights [3]field.Elem
		want    api.Errno
	}{
		{nil, [3]field.Elem{one, one, one}, api.ErrArg},
		{&plane.World{}, [3]field.Elem{none, other, one}, api.ErrArg},
		{w, [3]field.Elem{}, api.ErrField},
		{w, [3]field.Elem{none, one, one}, api.ErrField},
		{w, [3]field.Elem{one, none, one}, api.ErrField},
		{w, [3]field.Elem{one, one, none}, api.ErrField},
		{w, [3]field.Elem{other, one, one}, api.ErrField},
		{w, [3]field.Elem{long, one, other}, api.ErrField},
		{w, [3]field.Elem{zero, zero, other}, api.ErrField},
		{w, [3]field.Elem{other, other, other}, api.ErrField},
		{v, [3]field.Elem{one, other, other}, api.ErrField},
		{w, [3]field.Elem{long, one, one}, api.ErrFull},
		{w, [3]field.Elem{long, zero, one}, api.ErrFull},
		{w, [3]field.Elem{long, zero, zero}, api.ErrOut},
		{w, [3]field.Elem{zero, zero, zero}, api.ErrOut},
	} {
		p, err := c.w.Point(c.heights)
		noPoint(t, c.heights[0].Text(), p, err, c.want)
	}
}

// P2.3: points of another world of the same orders are points of the world; those of the same level and other orders are not.
func TestTwoWorlds(t *testing.T) {
	o := api.Orders{M01: 3, M12: 7, M02: 2}
	w, again, turned := newWorld(t, o), newWorld(t, o), newWorld(t, api.Orders{M01: 7, M12: 3, M02: 2})
	p := whole(t, w, 1, 2, 3)
	if !same(t, again, p, whole(t, again, 2, 4, 6)) || text(move(t, again, word("01"), p)) != text(move(t, w, word("01"), p)) {
		t.Error("a point of a world of the same orders")
	}
	if _, err := turned.Same(p, p); err != api.ErrField {
		t.Error(err)
	}
	if got := text(newPoint(t, again, p.Heights())); got != text(p) {
		t.Error("heights of a world of the same orders", got)
	}
}
