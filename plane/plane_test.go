package plane_test

import (
	"math"
	"math/big"
	"math/rand"
	"strings"
	"testing"

	"horocycle/api"
	"horocycle/field"
	"horocycle/plane"
)

// expected returns the error of orders, and the level of their world.
func expected(o api.Orders) (int, api.Errno) {
	angles, level := new(big.Rat), 1
	for _, m := range []int{o.M01, o.M12, o.M02} {
		if m == 0 {
			continue
		}
		if m < 2 || m > 12 {
			return 0, api.ErrArg
		}
		angles.Add(angles, big.NewRat(1, int64(m)))
		for multiple := level; level%m != 0; level += multiple {
		}
	}
	if angles.Cmp(big.NewRat(1, 1)) >= 0 {
		return 0, api.ErrArg
	}
	if level > 60 {
		return 0, api.ErrFull
	}
	return level, api.OK
}

// P2.1, DOC.md: the orders that are allowed, the level of the field, and the orders of the world.
func TestNew(t *testing.T) {
	for code := range 15 * 15 * 15 {
		o := api.Orders{M01: code%15 - 1, M12: code/15%15 - 1, M02: code/225 - 1}
		level, want := expected(o)
		w, err := plane.New(o)
		if err != want || (w != nil) != (want == api.OK) {
			t.Errorf("New of %v: %v, %d, want %d", o, w, err, want)
		} else if w != nil && (w.Orders() != o || w.Field().Level() != level) {
			t.Errorf("New of %v: %v, level %d, want %d", o, w.Orders(), w.Field().Level(), level)
		}
	}
	for _, o := range []api.Orders{{M01: math.MinInt}, {M12: math.MaxInt}, {M02: math.MinInt + 1}, {M01: 13, M12: 7, M02: 11}, {M01: math.MaxInt, M12: math.MaxInt, M02: math.MaxInt}} {
		if w, err := plane.New(o); w != nil || err != api.ErrArg {
			t.Errorf("New of %v: %v, %d", o, w, err)
		}
	}
}

// P2.1, P1: a world that is none.
func TestNoWorld(t *testing.T) {
	for _, w := range []*plane.World{nil, {}, new(plane.World)} {
		if w.Field() != nil || w.Orders() != (api.Orders{}) {
			t.Error("the field or the orders of no world")
		}
	}
	if x := (plane.Point{}).Heights(); x[0].Text()+x[1].Text()+x[2].Text() != "" {
		t.Error("the heights of no point")
	}
}

// P2.2: heights in lowest terms.
func TestLowestTerms(t *testing.T) {
	nines, tens := strings.Repeat("9", 60), "1"+strings.Repeat("0", 59)
	long := strings.Repeat("7", 1000)
	big := "1" + strings.Repeat("0", 999)
	for _, c := range []struct {
		orders  api.Orders
		heights [3]string
		want    [3]string
	}{
		{api.Orders{}, [3]string{"1", "1", "1"}, [3]string{"1", "1", "1"}},
		{api.Orders{}, [3]string{"2", "4", "4"}, [3]string{"1", "2", "2"}},
		{api.Orders{}, [3]string{"1/2", "1/3", "1/5"}, [3]string{"15", "10", "6"}},
		{api.Orders{}, [3]string{"4/9", "2/3", "10/21"}, [3]string{"14", "21", "15"}},
		{api.Orders{}, [3]string{"-1/7", "4/7", "4/7"}, [3]string{"-1", "4", "4"}},
		{api.Orders{}, [3]string{"0", "3", "6"}, [3]string{"0", "1", "2"}},
		{api.Orders{}, [3]string{"0", "1/" + long, "1/" + long}, [3]string{"0", "1", "1"}},
		{api.Orders{}, [3]string{long, long, long}, [3]string{"1", "1", "1"}},
		{api.Orders{}, [3]string{long + "/" + big, long + "/" + big, long + "/" + big}, [3]string{"1", "1", "1"}},
		{api.Orders{}, [3]string{big, "0", "1" + strings.Repeat("0", 945)}, [3]string{"1" + strings.Repeat("0", 54), "0", "1"}},
		{api.Orders{}, [3]string{nines, nines, "1"}, [3]string{nines, nines, "1"}},
		{api.Orders{}, [3]string{"1/" + nines, "1/" + nines, "1"}, [3]string{"1", "1", nines}},
		{api.Orders{}, [3]string{tens, "1", "1/10"}, [3]string{}},
		{api.Orders{M01: 5, M12: 5, M02: 5}, [3]string{"1/2 1/3", "0 3/4", "5/6 0"}, [3]string{"6 4", "0 9", "10 0"}},
		{api.Orders{M01: 5, M12: 5, M02: 5}, [3]string{"0 6", "4 0", "10 2"}, [3]string{"0 3", "2 0", "5 1"}},
		{api.Orders{M01: 5, M12: 5, M02: 5}, [3]string{"0 2", "0 2", "0 2"}, [3]string{"0 1", "0 1", "0 1"}},
		{api.Orders{M01: 5, M12: 5, M02: 5}, [3]string{"-1/2 1/2", "1/6 0", "0 1/10"}, [3]string{"-15 15", "5 0", "0 3"}},
		{api.Orders{M01: 7, M12: 7, M02: 7}, [3]string{"0 0 2", "4 0 0", "0 1 0"}, [3]string{"0 0 2", "4 0 0", "0 1 0"}},
		{api.Orders{M01: 7, M12: 7, M02: 7}, [3]string{"0 0 2", "4 0 0", "0 1/3 0"}, [3]string{"0 0 6", "12 0 0", "0 1 0"}},
	} {
		w := newWorld(t, c.orders)
		given := numbers(t, w, c.heights[:]...)
		p, err := w.Point(given)
		if c.want == [3]string{} {
			noPoint(t, "not small", p, err, api.ErrFull)
			continue
		}
		if want := strings.Join(c.want[:], ", "); err != api.OK || text(p) != want {
			t.Errorf("%.80v: %.80s, %d", c.heights, text(p), err)
		}
		for i, x := range given {
			if x.Text() != c.heights[i] {
				t.Errorf("the height %s that was handed over is %s", c.heights[i], x.Text())
			}
		}
	}
}

// P2.2: heights that are not small in lowest terms are ErrFull, ahead of ErrOut.
func TestPointFull(t *testing.T) {
	w := newWorld(t, api.Orders{})
	nines, ten, one := strings.Repeat("9", 60), "1"+strings.Repeat("0", 60), "1"
	for _, c := range []struct {
		heights [3]string
		want    api.Errno
	}{
		{[3]string{nines, nines, nines[1:] + "8"}, api.OK},
		{[3]string{"-1", nines, nines}, api.OK},
		{[3]string{ten, one, one}, api.ErrFull},
		{[3]string{one, "1/" + ten, one}, api.ErrFull},
		{[3]string{one, one, "1/" + nines}, api.OK},
		{[3]string{ten, ten, ten}, api.OK},
		{[3]string{ten, "10", "20"}, api.OK},
		{[3]string{"1/" + nines, "1/" + nines[1:] + "8", "1"}, api.ErrFull},
		{[3]string{"-" + ten, "1", "1"}, api.ErrFull}, // not a point, too
		{[3]string{"-" + nines, "1", "1"}, api.ErrOut},
		{[3]string{ten, "0", "1"}, api.ErrFull},
		{[3]string{ten, "0", "0"}, api.ErrOut}, // 1, 0, 0: an ideal corner
		{[3]string{"1" + strings.Repeat("0", 999), "1/3", "1/7"}, api.ErrFull},
		{[3]string{strings.Repeat("1", 1000), strings.Repeat("3", 1000), "1/" + strings.Repeat("7", 1000)}, api.ErrFull},
	} {
		p, err := w.Point(numbers(t, w, c.heights[:]...))
		if c.want != api.OK {
			noPoint(t, c.heights[0], p, err, c.want)
		} else if err != api.OK {
			t.Errorf("%.70v: %d", c.heights, err)
		}
	}
	// All coefficients count, and those of one height alone may be without a common divisor.
	w = newWorld(t, api.Orders{M01: 5, M12: 5, M02: 5})
	for _, c := range []struct {
		height string
		want   api.Errno
	}{{"0 " + ten, api.ErrFull}, {"1 " + ten, api.ErrFull}, {"1 " + nines, api.OK}, {"1/2 " + nines, api.ErrFull}, {"-1 " + ten, api.ErrFull}} {
		_, err := w.Point(numbers(t, w, "1 0", "1 0", c.height))
		if err != c.want {
			t.Errorf("%.70s: %d, want %d", c.height, err, c.want)
		}
	}
}

// P2.2: points that are none.
func TestPointOut(t *testing.T) {
	w := newWorld(t, api.Orders{})
	for _, x := range [][3]int64{{-1, 2, 2}, {-1, -4, -4}, {1, 0, 0}, {0, 1, 0}, {0, 0, 1}, {0, 0, 0}, {-1, -1, -1}, {1, -1, 1}, {0, -1, -1}} {
		f := w.Field()
		p, err := w.Point([3]field.Elem{f.Int(x[0]), f.Int(x[1]), f.Int(x[2])})
		noPoint(t, "out", p, err, api.ErrOut)
	}
	for _, x := range [][3]int64{{-1, 3, 3}, {0, 1, 1}, {1, 1, 0}, {1000, 1, 0}, {-1, 1000, 2}} {
		whole(t, w, x[0], x[1], x[2])
	}
	// An ideal corner, and its picture behind a mirror, have N = 0; so near to them there are points.
	v := newWorld(t, api.Orders{M01: 12, M12: 12})
	for _, c := range []struct {
		heights []string
		want    api.Errno
	}{
		{[]string{"0 0 0 0", "1 0 0 0", "0 0 0 0"}, api.ErrOut},
		{[]string{"0 1 0 0", "-1 0 0 0", "0 1 0 0"}, api.ErrOut},
		{[]string{"0 1 0 0", "-1 0 0 0", "1/10000000000000000000000000000000000000 1 0 0"}, api.OK},
		{[]string{"0 1 0 0", "-1 0 0 0", "-1/10000000000000000000000000000000000000 1 0 0"}, api.ErrOut},
	} {
		if _, err := v.Point(numbers(t, v, c.heights...)); err != c.want {
			t.Errorf("%v: %d, want %d", c.heights, err, c.want)
		}
	}
}

// norm returns N(x, x), with rounding.
func norm(w *plane.World, x0, x1, x2 float64) float64 {
	o, x := w.Orders(), [3]float64{x0, x1, x2}
	cosine := func(m int) float64 {
		if m == 0 {
			return 2
		}
		return 2 * math.Cos(math.Pi/float64(m))
	}
	c := [3][3]float64{}
	c[0][1], c[1][2], c[0][2] = cosine(o.M01), cosine(o.M12), cosine(o.M02)
	c[1][0], c[2][1], c[2][0] = c[0][1], c[1][2], c[0][2]
	sum := 0.0
	for i := range 3 {
		for j := range 3 {
			k := 3 - i - j
			if i == j {
				a := c[(i+1)%3][(i+2)%3]
				sum += (4 - a*a) * x[i] * x[i]
			} else {
				sum += (2*c[i][j] + c[i][k]*c[j][k]) * x[i] * x[j]
			}
		}
	}
	return sum
}

// P2.2: -x, 1, 1 is a point as long as N > 0: the edge of the plane is where it is by numbers that are rounded.
func TestPointEdge(t *testing.T) {
	eachWorld(t, func(t *testing.T, w *plane.World, _ *rand.Rand) {
		const unit = 1 << 20
		low, high, one := int64(-unit*unit), int64(0), w.Field().Int(unit)
		for high-low > 1 {
			at := (low + high) / 2
			if _, err := w.Point([3]field.Elem{w.Field().Int(at), one, one}); err == api.OK {
				high = at
			} else {
				low = at
			}
		}
		at, near := float64(high)/unit, 1e-5
		if norm(w, at-near, 1, 1) > 0 || norm(w, at+near, 1, 1) < 0 {
			t.Errorf("%v: the edge of the plane at %f", w.Orders(), at)
		}
	})
}

// P2.2: Same, up to any positive number of the field.
func TestSame(t *testing.T) {
	eachWorld(t, func(t *testing.T, w *plane.World, r *rand.Rand) {
		f := w.Field()
		p, q := inside(t, w, r), inside(t, w, r)
		x := p.Heights()
		for i := range x {
			x[i] = must(t)(x[i].Mul(must(t)(f.Int(3).Add(f.Cos(1)))))
			x[i] = must(t)(x[i].Div(must(t)(f.Int(7).Sub(f.Cos(1)))))
		}
		longer := newPoint(t, w, x)
		if !same(t, w, p, longer) || !same(t, w, longer, p) || !same(t, w, p, p) {
			t.Errorf("%v: %s is not %s", w.Orders(), text(p), text(longer))
		}
		if same(t, w, p, q) != (cmpDist(t, w, p, q, p, p) == 0) {
			t.Errorf("%v: %s and %s", w.Orders(), text(p), text(q))
		}
		x[1] = must(t)(x[1].Add(rational(t, w, "1/1000000000000000000000000")))
		if near := newPoint(t, w, x); same(t, w, p, near) || same(t, w, near, p) {
			t.Errorf("%v: %s is %s", w.Orders(), text(p), text(near))
		}
	})
	w := newWorld(t, api.Orders{})
	for _, c := range []struct {
		x, y [3]int64
		want bool
	}{
		{[3]int64{1, 2, 3}, [3]int64{2, 4, 6}, true},
		{[3]int64{1, 2, 3}, [3]int64{1, 2, 4}, false},
		{[3]int64{1, 2, 3}, [3]int64{1, 3, 3}, false},
		{[3]int64{1, 2, 3}, [3]int64{2, 2, 3}, false},
		{[3]int64{0, 2, 3}, [3]int64{0, 4, 6}, true},
		{[3]int64{0, 2, 3}, [3]int64{0, 2, 5}, false},
		{[3]int64{1, 0, 3}, [3]int64{3, 0, 1}, false},
		{[3]int64{1, 1, 0}, [3]int64{1, 2, 0}, false},
		{[3]int64{-1, 4, 4}, [3]int64{1, 4, 4}, false},
	} {
		p, q := whole(t, w, c.x[0], c.x[1], c.x[2]), whole(t, w, c.y[0], c.y[1], c.y[2])
		if same(t, w, p, q) != c.want {
			t.Errorf("Same of %v and %v is not %v", c.x, c.y, c.want)
		}
	}
}

// P2.4: the places of points behind mirrors.
func TestMove(t *testing.T) {
	ideal, square, bent := api.Orders{}, api.Orders{M01: 4, M12: 4, M02: 4}, api.Orders{M01: 4, M12: 2}
	for _, c := range []struct {
		orders      api.Orders
		word, point string
		want        string
	}{
		{ideal, "", "1, 2, 3", "1, 2, 3"},
		{ideal, "0", "1, 1, 1", "-1, 3, 3"},
		{ideal, "1", "1, 2, 3", "5, -2, 7"},
		{ideal, "2", "1, 2, 3", "7, 8, -3"},
		{ideal, "01", "1, 2, 3", "-5, 8, 17"}, // 1 first
		{ideal, "10", "1, 2, 3", "7, -4, 13"},
		{ideal, "012", "1, 1, 1", "-9, 15, 23"},
		{ideal, "00", "1, 2, 3", "1, 2, 3"},
		{square, "0", "1 0, 1 0, 1 0", "-1 0, 1 1, 1 1"},
		{square, "10", "1 0, 1 0, 1 0", "1 1, -1 -1, 3 2"},
		{square, "1010", "1 0, 0 1, 3 0", "-1 0, 0 -1, 9 4"},
		{bent, "0", "1 0, 1 0, 1 0", "-1 0, 1 1, 3 0"}, // c01 is L, c12 is 0, c02 is 2
		{bent, "1", "1 0, 1 0, 1 0", "1 1, -1 0, 1 0"},
		{bent, "2", "1 0, 1 0, 1 0", "3 0, 1 0, -1 0"},
	} {
		w := newWorld(t, c.orders)
		p := newPoint(t, w, numbers(t, w, strings.Split(c.point, ", ")...))
		if got := text(move(t, w, word(c.word), p)); got != c.want {
			t.Errorf("%v: %s moves %s to %s, want %s", c.orders, c.word, c.point, got, c.want)
		}
		if text(p) != c.point {
			t.Error("the point that was handed over has changed", text(p))
		}
	}
}
