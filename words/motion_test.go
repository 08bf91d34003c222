package words_test

import (
	"math/rand"
	"testing"

	"horocycle/api"
	"horocycle/plane"
)

// ground is the plane of some orders, with the middle of its first tile.
type ground struct {
	*plane.World
	middle plane.Point
}

func newGround(t *testing.T, o api.Orders) ground {
	t.Helper()
	w, err := plane.New(o)
	if err != api.OK {
		t.Fatal(err)
	}
	m, err := w.Middle()
	if err != api.OK {
		t.Fatal(err)
	}
	return ground{w, m}
}

// moved returns where the middle comes to.
func (g ground) moved(t *testing.T, w string) plane.Point {
	t.Helper()
	p, err := g.Move(w, g.middle)
	if err != api.OK {
		t.Fatalf("%v: %s: %d", g.Orders(), digits(w), err)
	}
	return p
}

// tile returns the tile to which the middle is folded when it is moved.
func (g ground) tile(t *testing.T, w string) string {
	t.Helper()
	tile, first, err := g.Fold(g.moved(t, w))
	if err != api.OK {
		t.Fatalf("%v: %s: %d", g.Orders(), digits(w), err)
	}
	if is, err := g.Same(first, g.middle); !is || err != api.OK {
		t.Fatalf("%v: %s: the middle does not come back", g.Orders(), digits(w))
	}
	return tile
}

// mirrors returns how many mirrors have the middle on one side and the moved one on the other side, of those that a word leads over: others have both on one side.
func (g ground) mirrors(t *testing.T, w string) int {
	t.Helper()
	between := map[string]bool{}
	end := g.moved(t, w)
	for at := range len(w) {
		e := api.Edge{Tile: w[:at], Mirror: int(w[at])}
		here, err := g.Side(e, g.middle)
		there, again := g.Side(e, end)
		if err != api.OK || again != api.OK {
			t.Fatalf("%v: %s: %d, %d", g.Orders(), digits(w), err, again)
		}
		if here != there {
			x := g.moved(t, w[:at+1]+backward(w[:at])).Heights() // beyond the mirror: the middle, reflected at it
			between[x[0].Text()+", "+x[1].Text()+", "+x[2].Text()] = true
		}
	}
	return len(between)
}

// P3.6, T3: the normal word is the tile to which the moved middle is folded, and its letters are as many as the mirrors between.
func TestMotions(t *testing.T) {
	eachOrders(t, func(t *testing.T, o api.Orders, r *rand.Rand) {
		g := newGround(t, o)
		for range 40 {
			w := anyWord(r, 30)
			n := normal(t, o, w)
			if tile := g.tile(t, w); tile != n {
				t.Errorf("%v: %s has the normal word %s and the tile %s", o, digits(w), digits(n), digits(tile))
			}
			if mirrors := g.mirrors(t, w); mirrors != len(n) {
				t.Errorf("%v: %s has the normal word %s, and %d mirrors are between", o, digits(w), digits(n), mirrors)
			}
		}
	})
}

// P3.6: for all orders that are allowed.
func TestAllOrders(t *testing.T) {
	r, numbers := rand.New(rand.NewSource(1)), []int{0, 2, 3, 4, 5, 6, 7, 8, 9, 10, 11, 12}
	for _, a := range numbers {
		for _, b := range numbers {
			for _, c := range numbers {
				o := api.Orders{M01: a, M12: b, M02: c}
				if ordersFault(o) != api.OK {
					continue
				}
				g := newGround(t, o)
				for range 5 {
					w := anyWord(r, 30)
					if tile, n := g.tile(t, w), normal(t, o, w); tile != n {
						t.Errorf("%v: %s has the normal word %s and the tile %s", o, digits(w), digits(n), digits(tile))
					}
				}
			}
		}
	}
}

// P3.6: also for the longest words.
func TestLongMotions(t *testing.T) {
	for i, o := range []api.Orders{usual(), {M01: 4, M12: 4, M02: 4}, {M01: 2, M12: 3}, {M01: 2, M12: 6, M02: 4}} {
		g, r := newGround(t, o), rand.New(rand.NewSource(int64(i)))
		for range 10 {
			w := wordOf(r, 60)
			if tile, n := g.tile(t, w), normal(t, o, w); tile != n {
				t.Errorf("%v: %s has the normal word %s and the tile %s", o, digits(w), digits(n), digits(tile))
			}
		}
	}
}

// T3: two words lead to the same tile if and only if their motions are the same, that is, if the one moves back what the other one moves.
func TestSameMotions(t *testing.T) {
	eachOrders(t, func(t *testing.T, o api.Orders, r *rand.Rand) {
		g := newGround(t, o)
		for range 40 {
			u, v := anyWord(r, 15), anyWord(r, 15)
			if r.Intn(2) == 0 {
				v = normal(t, o, u)
			}
			kind, err := g.Kind(u + backward(v))
			if is := same(t, o, u, v); err != api.OK || is != (kind == api.Rest) {
				t.Errorf("%v: Same of %s and %s is %v, their motions differ by the kind %d, the error %d", o, digits(u), digits(v), is, kind, err)
			}
		}
	})
}

// P3.3, P3.5: what has an order is at rest, a mirror or a turn; other motions never lead back.
func TestOrdersOfKinds(t *testing.T) {
	eachOrders(t, func(t *testing.T, o api.Orders, r *rand.Rand) {
		g := newGround(t, o)
		for range 60 {
			w := anyWord(r, 12)
			kind, err := g.Kind(w)
			n := order(t, o, w)
			ok := n == 0
			switch kind {
			case api.Rest:
				ok = n == 1
			case api.Mirror:
				ok = n == 2
			case api.Turn:
				ok = n >= 2
			}
			if err != api.OK || !ok {
				t.Errorf("%v: %s has the kind %d and the order %d", o, digits(w), kind, n)
			}
		}
	})
}
