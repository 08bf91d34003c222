package field_test

import (
	"math/rand"
	"strings"
	"sync"
	"testing"

	"horocycle/api"
	"horocycle/field"
)

// someLevels are levels of all kinds: small ones, primes, powers, products, the greatest one.
func someLevels() []int {
	return []int{1, 2, 3, 4, 5, 6, 7, 8, 9, 12, 14, 15, 20, 30, 42, 59, 60}
}

// anyFraction returns the text of a fraction of up to so many digits.
func anyFraction(r *rand.Rand, f *field.Field, digits int) string {
	number := func() string {
		text := make([]byte, 1+r.Intn(digits))
		for i := range text {
			text[i] = byte('0' + r.Intn(10))
		}
		return strings.TrimLeft(string(text), "0")
	}
	above, below := number(), number()
	if above == "" {
		return "0"
	}
	if r.Intn(2) == 0 {
		above = "-" + above
	}
	if below == "" || below == "1" || r.Intn(3) == 0 {
		return above
	}
	zeros := strings.Repeat(" 0", f.Degree()-1)
	if _, err := f.Read(above + "/" + below + zeros); err != api.OK {
		return above
	}
	return above + "/" + below
}

// anyNumber returns a number whose coefficients have up to so many digits; some are 0.
func anyNumber(t *testing.T, r *rand.Rand, f *field.Field, digits int) field.Elem {
	t.Helper()
	parts := make([]string, f.Degree())
	for i := range parts {
		parts[i] = "0"
		if r.Intn(3) > 0 {
			parts[i] = anyFraction(r, f, digits)
		}
	}
	return read(t, f, strings.Join(parts, " "))
}

// eachNumbers calls a check with three numbers of a level, for many levels and numbers.
func eachNumbers(t *testing.T, check func(t *testing.T, f *field.Field, x, y, z field.Elem)) {
	t.Helper()
	r := rand.New(rand.NewSource(1))
	for _, level := range someLevels() {
		f := newField(t, level)
		for _, digits := range []int{1, 1, 1, 2, 3, 8} {
			check(t, f, anyNumber(t, r, f, digits), anyNumber(t, r, f, digits), anyNumber(t, r, f, digits))
		}
		check(t, f, f.Int(0), f.Int(-1), f.Cos(1))
	}
}

func same(t *testing.T, what string, x, y field.Elem) {
	t.Helper()
	if x.Text() != y.Text() || x.Text() == "" || cmp(t, x, y) != 0 {
		t.Errorf("%s: %s is not %s", what, x.Text(), y.Text())
	}
}

// P1.6: the laws of sums, products, differences and quotients.
func TestFieldLaws(t *testing.T) {
	eachNumbers(t, func(t *testing.T, f *field.Field, x, y, z field.Elem) {
		same(t, "x + y", add(t, x, y), add(t, y, x))
		same(t, "x y", mul(t, x, y), mul(t, y, x))
		same(t, "x + y + z", add(t, add(t, x, y), z), add(t, x, add(t, y, z)))
		same(t, "x y z", mul(t, mul(t, x, y), z), mul(t, x, mul(t, y, z)))
		same(t, "x (y + z)", mul(t, x, add(t, y, z)), add(t, mul(t, x, y), mul(t, x, z)))
		same(t, "x + y - y", sub(t, add(t, x, y), y), x)
		same(t, "x - y + y", add(t, sub(t, x, y), y), x)
		same(t, "x + 0", add(t, x, f.Int(0)), x)
		same(t, "x 1", mul(t, x, f.Int(1)), x)
		same(t, "x - y", sub(t, x, y), add(t, x, mul(t, f.Int(-1), y)))
		if y.Sign() == 0 {
			return
		}
		same(t, "x y / y", div(t, mul(t, x, y), y), x)
		same(t, "y / y", div(t, y, y), f.Int(1))
		if quotient, err := x.Div(y); err == api.OK {
			same(t, "x / y y", mul(t, quotient, y), x)
		} else if err != api.ErrFull {
			t.Error("x / y", err)
		}
	})
}

// P1.6: quotients that are long, up to ErrFull.
func TestLongQuotients(t *testing.T) {
	r := rand.New(rand.NewSource(2))
	for _, c := range []struct{ level, digits int }{{1, 499}, {4, 200}, {5, 200}, {7, 60}, {12, 60}, {42, 10}, {60, 5}} {
		f := newField(t, c.level)
		full := 0
		for range 8 {
			x, y := anyNumber(t, r, f, c.digits), anyNumber(t, r, f, c.digits)
			if y.Sign() == 0 {
				continue
			}
			quotient, err := x.Div(y)
			if err == api.ErrFull {
				full++
				continue
			}
			if err != api.OK {
				t.Fatal(c, err)
			}
			if back, err := quotient.Mul(y); err != api.OK || back.Text() != x.Text() {
				t.Errorf("%v: %.40s by %.40s", c, x.Text(), y.Text())
			}
		}
		if c.level == 1 && full > 0 {
			t.Error("quotients of less than 1000 digits are ErrFull")
		}
	}
}

// P1.6: each two numbers are in order, which sums keep, and products by signs.
func TestOrderLaws(t *testing.T) {
	eachNumbers(t, func(t *testing.T, f *field.Field, x, y, z field.Elem) {
		c := cmp(t, x, y)
		if cmp(t, y, x) != -c || cmp(t, x, x) != 0 || c != sub(t, x, y).Sign() || (c == 0) != (x.Text() == y.Text()) {
			t.Errorf("the order of %s and %s: %d", x.Text(), y.Text(), c)
		}
		if cmp(t, add(t, x, z), add(t, y, z)) != c {
			t.Errorf("the order of %s and %s, with %s", x.Text(), y.Text(), z.Text())
		}
		if c < 0 && cmp(t, y, z) < 0 && cmp(t, x, z) >= 0 {
			t.Errorf("the order of %s, %s and %s", x.Text(), y.Text(), z.Text())
		}
		if mul(t, x, y).Sign() != x.Sign()*y.Sign() {
			t.Errorf("the sign of %s by %s", x.Text(), y.Text())
		}
	})
}

// P1.6: the number lies between its floor and the next whole number.
func TestFloorLaw(t *testing.T) {
	eachNumbers(t, func(t *testing.T, f *field.Field, x, y, z field.Elem) {
		for _, number := range []field.Elem{x, y, z, mul(t, x, x)} {
			n, err := number.Floor()
			if err == api.ErrFull {
				continue
			}
			if err != api.OK || cmp(t, f.Int(n), number) > 0 || cmp(t, number, add(t, f.Int(n), f.Int(1))) >= 0 {
				t.Errorf("the floor of %s: %d, %d", number.Text(), n, err)
			}
		}
	})
}

// P1.6: numbers that are very near to 0, or to each other.
func TestNearNumbers(t *testing.T) {
	for _, level := range []int{4, 5, 7, 30, 60} {
		f := newField(t, level)
		unit, power := sub(t, f.Cos(1), f.Int(2)), f.Int(1)
		for i := 1; i <= 1500; i++ {
			power = mul(t, power, unit)
			if i%250 != 0 && i > 10 {
				continue
			}
			want := 1 - 2*(i%2)
			if power.Sign() != want || cmp(t, add(t, f.Int(5), power), f.Int(5)) != want {
				t.Errorf("level %d: the power %d of a number near to 0 has the sign %d", level, i, power.Sign())
			}
			if n, err := add(t, f.Int(5), power).Floor(); err != api.OK || n != 5-int64(i%2) {
				t.Errorf("level %d: the floor of 5 and the power %d of a number near to 0 is %d", level, i, n)
			}
		}
	}
}

// P1.7: products of cosines.
func TestCosineProducts(t *testing.T) {
	for level := 1; level <= api.MaxLevel; level++ {
		f := newField(t, level)
		for a := -2; a <= level+1; a += 1 + level/12 {
			for b := -level - 1; b <= 2*level+1; b += 1 + level/12 {
				if got, want := mul(t, f.Cos(a), f.Cos(b)), add(t, f.Cos(a+b), f.Cos(a-b)); got.Text() != want.Text() {
					t.Fatalf("level %d: Cos(%d) Cos(%d) is %s, want %s", level, a, b, got.Text(), want.Text())
				}
			}
		}
	}
}

// P1.7: cosines fall from 2 to -2.
func TestCosinesFall(t *testing.T) {
	for level := 1; level <= api.MaxLevel; level++ {
		f := newField(t, level)
		if cmp(t, f.Cos(0), f.Int(2)) != 0 || cmp(t, f.Cos(level), f.Int(-2)) != 0 {
			t.Errorf("level %d: from %s to %s", level, f.Cos(0).Text(), f.Cos(level).Text())
		}
		for k := range level {
			if cmp(t, f.Cos(k), f.Cos(k+1)) != 1 {
				t.Errorf("level %d: Cos(%d) is not greater than Cos(%d)", level, k, k+1)
			}
		}
	}
}

// carry returns a number in the field of a level that is a multiple of its own level.
func carry(t *testing.T, x field.Elem, m int, g *field.Field) field.Elem {
	t.Helper()
	zeros := strings.Repeat(" 0", g.Degree()-1)
	sum, power := g.Int(0), g.Int(1)
	for _, coefficient := range strings.Fields(x.Text()) {
		sum = add(t, sum, mul(t, power, read(t, g, coefficient+zeros)))
		power = mul(t, power, g.Cos(g.Level()/m))
	}
	return sum
}

// P1.8: the field of a level in that of a multiple of it.
func TestFieldsInFields(t *testing.T) {
	r := rand.New(rand.NewSource(3))
	for _, c := range [][2]int{{1, 7}, {2, 12}, {3, 9}, {3, 60}, {4, 12}, {5, 5}, {5, 30}, {6, 42}, {7, 14}, {7, 42}, {12, 60}, {15, 60}, {20, 60}, {30, 60}} {
		f, g := newField(t, c[0]), newField(t, c[1])
		for range 5 {
			x, y := anyNumber(t, r, f, 3), anyNumber(t, r, f, 3)
			p, q := carry(t, x, c[0], g), carry(t, y, c[0], g)
			same(t, "sum", carry(t, add(t, x, y), c[0], g), add(t, p, q))
			same(t, "product", carry(t, mul(t, x, y), c[0], g), mul(t, p, q))
			if cmp(t, x, y) != cmp(t, p, q) || x.Sign() != p.Sign() {
				t.Errorf("%v: the order of %s and %s", c, x.Text(), y.Text())
			}
			m, e := x.Floor()
			n, h := p.Floor()
			if m != n || e != h {
				t.Errorf("%v: the floor of %s: %d and %d", c, x.Text(), m, n)
			}
		}
		for k := range c[0] {
			same(t, "cosine", carry(t, f.Cos(k), c[0], g), g.Cos(k*c[1]/c[0]))
		}
	}
}

// P1.9: what is made is read again.
func TestTextsAreReadAgain(t *testing.T) {
	eachNumbers(t, func(t *testing.T, f *field.Field, x, y, z field.Elem) {
		for _, number := range []field.Elem{x, y, z, mul(t, x, y), add(t, x, mul(t, y, z)), f.Cos(5)} {
			text := number.Text()
			back, err := f.Read(text)
			if len(text) > api.MaxText {
				noNumber(t, "a long text", back, err, api.ErrForm)
			} else if err != api.OK || back.Text() != text || cmp(t, back, number) != 0 {
				t.Errorf("%.60s is read as %.60s", text, back.Text())
			}
		}
	})
}

// P1.9: the longest texts that are read.
func TestLongestTexts(t *testing.T) {
	f := newField(t, 7)
	text := nines(1000) + "/" + ten(1000) + " -" + ten(999) + "/" + nines(995)
	text += " " + strings.Repeat("7", api.MaxText-len(text)-1)
	if len(text) != api.MaxText {
		t.Fatal(len(text))
	}
	x := read(t, f, text)
	if x.Text() != text {
		t.Errorf("%.60s", x.Text())
	}
	// The sum with a number that has a longer text is a number, but its text is not read.
	sum := add(t, x, read(t, f, "0 0 1/"+nines(30)))
	if len(sum.Text()) <= api.MaxText {
		t.Fatal(len(sum.Text()))
	}
	back, err := f.Read(sum.Text())
	noNumber(t, "a text of too many bytes", back, err, api.ErrForm)
	same(t, "back", sub(t, sum, read(t, f, "0 0 1/"+nines(30))), x)
}

// P3, P4: numbers are never changed, and results depend on nothing else.
func TestNumbersStay(t *testing.T) {
	eachNumbers(t, func(t *testing.T, f *field.Field, x, y, z field.Elem) {
		before := x.Text() + "," + y.Text()
		first := results(x, y)
		results(y, z)
		results(z, f.Cos(3))
		if x.Text()+","+y.Text() != before {
			t.Errorf("%s became %s,%s", before, x.Text(), y.Text())
		}
		if again := results(x, y); again != first {
			t.Errorf("%s, then %s", first, again)
		}
		other := newField(t, f.Level())
		if again := results(read(t, other, x.Text()), read(t, other, y.Text())); again != first {
			t.Errorf("%s, in another field %s", first, again)
		}
	})
}

// results are all results for two numbers.
func results(x, y field.Elem) string {
	var out strings.Builder
	for _, do := range []way{field.Elem.Add, field.Elem.Sub, field.Elem.Mul, field.Elem.Div} {
		z, err := do(x, y)
		out.WriteString(z.Text())
		out.WriteByte(byte('a' + err))
	}
	c, _ := x.Cmp(y)
	n, _ := x.Floor()
	out.WriteByte(byte('m' + c + x.Sign() + int(n%5)))
	return out.String()
}

// P4: calls at the same time have the same results.
func TestCallsAtOnce(t *testing.T) {
	f := newField(t, 30)
	r := rand.New(rand.NewSource(4))
	x, y := anyNumber(t, r, f, 5), anyNumber(t, r, f, 5)
	want := results(x, y)
	got := make([]string, 8)
	var group sync.WaitGroup
	for i := range got {
		group.Go(func() { got[i] = results(x, y) })
	}
	group.Wait()
	for _, g := range got {
		if g != want {
			t.Errorf("%s, want %s", g, want)
		}
	}
}
