package plane_test

import (
	"math/big"
	"math/rand"
	"strings"
	"sync/atomic"
	"testing"

	"horocycle/api"
	"horocycle/field"
	"horocycle/plane"
)

// row is the coefficients of a number, all of them whole.
type row []*big.Int

// model reckons with heights apart, by whole numbers of the library.
type model struct {
	times [3][3][]row // the products of cij and the powers of L
	limit *big.Int    // the least number of more than MaxDigits digits
}

// rowOf returns the coefficients of a number.
func rowOf(x field.Elem) row {
	var list row
	for _, part := range strings.Split(x.Text(), " ") {
		n, ok := new(big.Int).SetString(part, 10)
		if !ok {
			panic(part)
		}
		list = append(list, n)
	}
	return list
}

func (x row) text() string {
	parts := make([]string, len(x))
	for i, n := range x {
		parts[i] = n.String()
	}
	return strings.Join(parts, " ")
}

// fits reports whether no coefficient reaches a limit.
func (x row) fits(limit *big.Int) bool {
	for _, n := range x {
		if n.CmpAbs(limit) >= 0 {
			return false
		}
	}
	return true
}

// plus returns x + y.
func (x row) plus(y row) row {
	sum := make(row, len(x))
	for i := range x {
		sum[i] = new(big.Int).Add(x[i], y[i])
	}
	return sum
}

func newModel(t *testing.T, w *plane.World) model {
	t.Helper()
	m := model{limit: new(big.Int).Exp(big.NewInt(10), big.NewInt(api.MaxDigits), nil)}
	o, f := w.Orders(), w.Field()
	orders := map[[2]int]int{{0, 1}: o.M01, {1, 2}: o.M12, {0, 2}: o.M02}
	for pair, order := range orders {
		c := f.Int(2)
		if order != 0 {
			c = f.Cos(f.Level() / order)
		}
		var rows []row
		power := f.Int(1)
		for range f.Degree() {
			rows = append(rows, rowOf(must(t)(c.Mul(power))))
			power = must(t)(power.Mul(f.Cos(1)))
		}
		m.times[pair[0]][pair[1]], m.times[pair[1]][pair[0]] = rows, rows
	}
	return m
}

// product returns cij x.
func (m model) product(i, j int, x row) row {
	sum := make(row, len(x))
	for k := range sum {
		sum[k] = new(big.Int)
		for power, n := range x {
			sum[k].Add(sum[k], new(big.Int).Mul(n, m.times[i][j][power][k]))
		}
	}
	return sum
}

// reflect returns the heights behind a mirror, and how many of the products on the way do not fit.
func (m model) reflect(i int, x [3]row) (y [3]row, long int) {
	for j := range 3 {
		if j == i {
			y[j] = make(row, len(x[j]))
			for k, n := range x[j] {
				y[j][k] = new(big.Int).Neg(n)
			}
			continue
		}
		product := m.product(i, j, x[i])
		if !product.fits(m.limit) {
			long++
		}
		y[j] = x[j].plus(product)
	}
	return y, long
}

// fit reports whether heights are not too great.
func (m model) fit(x [3]row) bool {
	return x[0].fits(m.limit) && x[1].fits(m.limit) && x[2].fits(m.limit)
}

// far is a point that is far out.
type far struct {
	point plane.Point
	rows  [3]row
	trail string // the word that moves it there
}

// farOut moves a point by a pattern of letters, the last one first, until one letter more would lead to heights that are too great.
func farOut(t *testing.T, w *plane.World, m model, p plane.Point, pattern string) far {
	t.Helper()
	x := p.Heights()
	end := far{point: p, rows: [3]row{rowOf(x[0]), rowOf(x[1]), rowOf(x[2])}}
	for {
		var letters []byte
		for len(letters) < api.MaxWord {
			letter := pattern[len(pattern)-1-(len(end.trail)+len(letters))%len(pattern)]
			next, _ := m.reflect(int(letter), end.rows)
			if !m.fit(next) {
				break
			}
			letters, end.rows = append(letters, letter), next
		}
		more := backward(string(letters))
		end.point, end.trail = move(t, w, more, end.point), more+end.trail
		if len(more) < api.MaxWord {
			return end
		}
	}
}

// back moves the point back by up to MaxWord letters of its trail.
func (end *far) back(t *testing.T, w *plane.World) {
	t.Helper()
	letters := end.trail[:min(len(end.trail), api.MaxWord)]
	end.point, end.trail = move(t, w, backward(letters), end.point), end.trail[len(letters):]
}

// P2.4, P2.5: a move is ErrFull just if the heights are too great behind one of the letters, whatever numbers are on the way.
func TestMoveLimit(t *testing.T) {
	var long, full atomic.Int64 // products on the way, and places, that are too great
	t.Cleanup(func() {
		if long.Load() < 10 || full.Load() < 10 {
			t.Error("too few moves at the limit", long.Load(), full.Load())
		}
	})
	eachWorld(t, func(t *testing.T, w *plane.World, r *rand.Rand) {
		m := newModel(t, w)
		for _, pattern := range []string{"012", "0121"} {
			if k := kind(t, w, word(pattern)); k != api.Shift && k != api.Glide {
				continue
			}
			out := farOut(t, w, m, inside(t, w, r), word(pattern))
			for range 30 {
				letter := r.Intn(3)
				next, many := m.reflect(letter, out.rows)
				if !m.fit(next) {
					full.Add(1)
					checkFull(t, w, letter, out.point)
					continue
				}
				long.Add(int64(many))
				q := checkMove(t, w, letter, out.point, next)
				if r.Intn(2) == 0 {
					out.point, out.rows = q, next
				}
			}
		}
	})
}

// checkFull checks that a letter leads to heights that are too great, also on the way back.
func checkFull(t *testing.T, w *plane.World, letter int, p plane.Point) {
	t.Helper()
	once, twice := string([]byte{byte(letter)}), string([]byte{byte(letter), byte(letter)})
	q, err := w.Move(once, p)
	noPoint(t, "Move", q, err, api.ErrFull)
	q, err = w.Move(twice, p)
	noPoint(t, "Move back and forth", q, err, api.ErrFull)
	if sign, err := w.Side(api.Edge{Tile: twice}, p); sign != 0 || err != api.ErrFull {
		t.Error("Side back and forth", sign, err)
	}
}

// checkMove checks that a letter leads to some heights, and returns the point there.
func checkMove(t *testing.T, w *plane.World, letter int, p plane.Point, want [3]row) plane.Point {
	t.Helper()
	once := string([]byte{byte(letter)})
	q := move(t, w, once, p)
	if got := text(q); got != want[0].text()+", "+want[1].text()+", "+want[2].text() {
		t.Fatalf("%v: the letter %d: %.80s", w.Orders(), letter, got)
	}
	sign, err := w.Side(api.Edge{Tile: once, Mirror: letter}, p)
	if x := q.Heights(); err != api.OK || sign != x[letter].Sign() {
		t.Errorf("%v: the side of %d: %d, %d", w.Orders(), letter, sign, err)
	}
	return q
}

// P2.3, P2.6: of heights that are not small Same and CmpDist tell the truth, or are ErrFull; points are folded if they are not
// more than MaxFold letters away.
func TestFarOut(t *testing.T) {
	eachWorld(t, func(t *testing.T, w *plane.World, r *rand.Rand) {
		m := middle(t, w)
		out := farOut(t, w, newModel(t, w), m, word("012"))
		noFold(t, w, out.point, len(out.trail))
		folded := false
		for ; out.trail != ""; out.back(t, w) {
			checkNotSmall(t, w, m, out.point)
			if folded || len(out.trail) > api.MaxFold+2*api.MaxWord {
				continue
			}
			tile, first, err := w.Fold(out.point)
			if err == api.ErrFull && len(out.trail) > api.MaxFold {
				continue
			}
			folded = true
			if err != api.OK || text(first) != text(m) || len(tile) > len(out.trail) || len(tile)%2 != len(out.trail)%2 {
				t.Errorf("%v: %d letters are folded to %d, %.80s, %d", w.Orders(), len(out.trail), len(tile), text(first), err)
			}
		}
		if !folded || text(out.point) != text(m) {
			t.Errorf("%v: moved back the middle is %.80s", w.Orders(), text(out.point))
		}
	})
}

// checkNotSmall checks what is told of the middle and a point far out.
func checkNotSmall(t *testing.T, w *plane.World, m, p plane.Point) {
	t.Helper()
	if is, err := w.Same(p, p); err != api.ErrFull && (err != api.OK || !is) || is && err != api.OK {
		t.Error("Same", is, err)
	}
	if is, err := w.Same(p, m); is || err != api.OK && err != api.ErrFull {
		t.Error("Same", is, err)
	}
	if sign, err := w.CmpDist(p, m, m, p); sign != 0 || err != api.OK && err != api.ErrFull {
		t.Error("CmpDist", sign, err)
	}
	if sign, err := w.CmpDist(p, m, m, m); err != api.ErrFull && (err != api.OK || sign != 1) || err != api.OK && sign != 0 {
		t.Error("CmpDist", sign, err)
	}
}

// noFold checks that a point so many letters away cannot be folded.
func noFold(t *testing.T, w *plane.World, p plane.Point, letters int) {
	t.Helper()
	tile, first, err := w.Fold(p)
	if letters <= api.MaxFold || tile != "" {
		t.Errorf("%v: %d letters are folded to %d", w.Orders(), letters, len(tile))
	}
	noPoint(t, "Fold", first, err, api.ErrFull)
}
