package plane_test

import (
	"math/rand"
	"strings"
	"sync"
	"testing"

	"horocycle/api"
	"horocycle/plane"
)

// shortest yields the words in the order of normal words: shorter ones first, of one length in the order of letters.
func shortest(letters int, yield func(word string)) {
	ring := []string{""}
	for range letters + 1 {
		var next []string
		for _, word := range ring {
			yield(word)
			next = append(next, word+"\x00", word+"\x01", word+"\x02")
		}
		ring = next
	}
}

// P2.6, P2.11: the tile to which the moved middle is folded is the first word of those that move the middle there.
func TestNormalWords(t *testing.T) {
	eachWorld(t, func(t *testing.T, w *plane.World, _ *rand.Rand) {
		m, first := middle(t, w), map[string]string{}
		shortest(6, func(word string) {
			p := move(t, w, word, m)
			normal, known := first[text(p)]
			if !known {
				normal = word
				first[text(p)] = word
			}
			if tile, back := fold(t, w, p); tile != normal || text(back) != text(m) {
				t.Errorf("%v: the middle, moved by %s, is folded to %s, %s", w.Orders(), digits(word), digits(tile), text(back))
			}
		})
	})
}

// P2.6, P2.11: where a point is folded.
func TestFoldLaws(t *testing.T) {
	eachWorld(t, func(t *testing.T, w *plane.World, r *rand.Rand) {
		for range 10 {
			p := inside(t, w, r)
			if tile, first := fold(t, w, p); tile != "" || text(first) != text(p) {
				t.Errorf("%v: %s is folded to %s, %s", w.Orders(), text(p), digits(tile), text(first))
			}
			q := move(t, w, anyWord(r, 30), p)
			tile, first := fold(t, w, q)
			if text(first) != text(p) {
				t.Errorf("%v: %s is folded to %s, not to %s", w.Orders(), text(q), text(first), text(p))
			}
			for _, x := range first.Heights() {
				if x.Sign() < 0 {
					t.Errorf("%v: %s is folded to %s", w.Orders(), text(q), text(first))
				}
			}
			if len(tile) > 30 || text(move(t, w, tile, first)) != text(q) {
				t.Errorf("%v: %s is not %s, moved by %s", w.Orders(), text(q), text(first), digits(tile))
			}
			for mirror := range 3 {
				if side(t, w, api.Edge{Tile: tile, Mirror: mirror}, q) < 0 {
					t.Errorf("%v: %s lies beyond the mirror %d of its tile %s", w.Orders(), text(q), mirror, digits(tile))
				}
			}
		}
	})
}

// P2.11: motions keep distances, and turn back with the inverse word.
func TestMotionLaws(t *testing.T) {
	eachWorld(t, func(t *testing.T, w *plane.World, r *rand.Rand) {
		for range 6 {
			u, v := anyWord(r, 20), anyWord(r, 20)
			p, q, s := inside(t, w, r), move(t, w, anyWord(r, 5), inside(t, w, r)), middle(t, w)
			if got := text(move(t, w, backward(u), move(t, w, u, p))); got != text(p) {
				t.Errorf("%v: %s there and back leads to %s", w.Orders(), digits(u), got)
			}
			if got, want := text(move(t, w, u, move(t, w, v, q))), text(move(t, w, u+v, q)); got != want {
				t.Errorf("%v: %s, then %s leads to %s, not to %s", w.Orders(), digits(v), digits(u), got, want)
			}
			if cmpDist(t, w, p, q, move(t, w, u, p), move(t, w, u, q)) != 0 {
				t.Errorf("%v: %s changes the distance of %s and %s", w.Orders(), digits(u), text(p), text(q))
			}
			near, far := cmpDist(t, w, p, q, q, s), cmpDist(t, w, move(t, w, u, p), move(t, w, u, q), move(t, w, v, q), move(t, w, v, s))
			if near != far {
				t.Errorf("%v: the order of distances is %d, and %d of the moved points", w.Orders(), near, far)
			}
		}
	})
}

// relation returns another word of the same motion.
func relation(o api.Orders, r *rand.Rand, word string) string {
	at := r.Intn(len(word) + 1)
	i := r.Intn(3)
	j := (i + 1) % 3
	order := []int{o.M01, o.M12, o.M02}[i]
	extra := string([]byte{byte(i), byte(i)})
	if order != 0 {
		extra = strings.Repeat(string([]byte{byte(i), byte(j)}), order)
	}
	return word[:at] + extra + word[at:]
}

// P2.11: motions are the same exactly if they move the middle to the same place.
func TestSameMotions(t *testing.T) {
	eachWorld(t, func(t *testing.T, w *plane.World, r *rand.Rand) {
		m, p := middle(t, w), inside(t, w, r)
		for range 10 {
			u := anyWord(r, 10)
			v := relation(w.Orders(), r, u)
			if !same(t, w, move(t, w, u, m), move(t, w, v, m)) || !same(t, w, move(t, w, u, p), move(t, w, v, p)) {
				t.Errorf("%v: %s and %s move points to different places", w.Orders(), digits(u), digits(v))
			}
			if trace(t, w, u) != trace(t, w, v) || kind(t, w, u) != kind(t, w, v) {
				t.Errorf("%v: the traces or kinds of %s and %s", w.Orders(), digits(u), digits(v))
			}
			v = anyWord(r, 10)
			if same(t, w, move(t, w, u, m), move(t, w, v, m)) != (kind(t, w, u+backward(v)) == api.Rest) {
				t.Errorf("%v: %s and %s", w.Orders(), digits(u), digits(v))
			}
		}
	})
}

// P2.12: a word leaves the middle where it is exactly if its kind is Rest; the numbers of letters and traces tell the other kinds.
func TestKindLaws(t *testing.T) {
	eachWorld(t, func(t *testing.T, w *plane.World, r *rand.Rand) {
		m, three, one := middle(t, w), w.Field().Int(3), w.Field().Int(1)
		shortest(4, func(word string) {
			got := kind(t, w, word)
			if rest := same(t, w, move(t, w, word, m), m); rest != (got == api.Rest) {
				t.Errorf("%v: the kind of %s is %d", w.Orders(), digits(word), got)
			}
			x, err := w.Trace(word)
			if err != api.OK {
				t.Fatal(err)
			}
			want := api.Glide
			sign, _ := x.Cmp(three)
			switch {
			case len(word)%2 == 0 && got == api.Rest:
				want = api.Rest
			case len(word)%2 == 0:
				want = []int{api.Turn, api.Limit, api.Shift}[sign+1]
			case x.Text() == one.Text():
				want = api.Mirror
			}
			if got != want {
				t.Errorf("%v: the kind of %s with the trace %s is %d", w.Orders(), digits(word), x.Text(), got)
			}
		})
	})
}

// P2.12: conjugate words have the same trace and kind, and shift by the same length; powers by more.
func TestConjugates(t *testing.T) {
	eachWorld(t, func(t *testing.T, w *plane.World, r *rand.Rand) {
		shifts := 0
		for range 15 {
			u, v := anyWord(r, 8), anyWord(r, 10) // v, u five times, and v back have up to MaxWord letters
			moved := v + u + backward(v)
			was := kind(t, w, u)
			if kind(t, w, moved) != was || trace(t, w, moved) != trace(t, w, u) || trace(t, w, backward(u)) != trace(t, w, u) {
				t.Errorf("%v: the traces or kinds of %s and %s", w.Orders(), digits(u), digits(moved))
			}
			if was < api.Shift {
				continue
			}
			shifts++
			if cmpShift(t, w, u, moved) != 0 || cmpShift(t, w, u, backward(u)) != 0 {
				t.Errorf("%v: the shifts of %s and %s", w.Orders(), digits(u), digits(moved))
			}
			for n := 2; n <= 5; n++ {
				more, less := strings.Repeat(u, n), strings.Repeat(u, n-1)
				if cmpShift(t, w, more, less) != 1 || cmpShift(t, w, less, more) != -1 || cmpShift(t, w, more, v+more+backward(v)) != 0 {
					t.Errorf("%v: the shift of %s, %d times", w.Orders(), digits(u), n)
				}
			}
		}
		if shifts == 0 {
			t.Errorf("%v: no shifts", w.Orders())
		}
	})
}

// T2: a point lies in the tile to which it is folded; only points on mirrors lie in others, which are not nearer to the first tile.
func TestTiles(t *testing.T) {
	eachWorld(t, func(t *testing.T, w *plane.World, r *rand.Rand) {
		for range 3 {
			p := move(t, w, anyWord(r, 4), inside(t, w, r))
			tile, first := fold(t, w, p)
			within := true
			for _, x := range first.Heights() {
				within = within && x.Sign() > 0
			}
			m, found := middle(t, w), false
			shortest(4, func(word string) {
				lies := true
				for mirror := range 3 {
					lies = lies && side(t, w, api.Edge{Tile: word, Mirror: mirror}, p) >= 0
				}
				// Folding the middle of a tile tells its normal word.
				normal, _ := fold(t, w, move(t, w, word, m))
				found = found || lies && normal == tile
				if lies && (within && normal != tile || len(normal) < len(tile)) || !lies && normal == tile {
					t.Errorf("%v: %s lies in %s: %v, and in %s", w.Orders(), text(p), digits(word), lies, digits(tile))
				}
			})
			if !found && len(tile) <= 4 {
				t.Errorf("%v: %s is folded to %s, and lies in no tile", w.Orders(), text(p), digits(tile))
			}
		}
	})
}

// P3, P4: worlds and points are never changed, whoever uses them at once.
func TestAtOnce(t *testing.T) {
	w := newWorld(t, api.Orders{M01: 3, M12: 7, M02: 2})
	p := middle(t, w)
	want := text(move(t, w, word("0120120"), p))
	x := p.Heights()
	x[2] = w.Field().Int(-7)
	if got := text(middle(t, w)); text(p) != got || x[2].Sign() > 0 {
		t.Error("a point is changed by its heights", text(p))
	}
	var all sync.WaitGroup
	for range 8 {
		all.Go(func() {
			for range 20 {
				q, err := w.Move(word("0120120"), p)
				tile, first, bad := w.Fold(q)
				if err != api.OK || bad != api.OK || text(q) != want || text(first) != text(p) || len(tile) != 7 {
					t.Error(digits(tile), text(q), err, bad)
				}
			}
		})
	}
	all.Wait()
}
