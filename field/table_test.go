package field

import (
	"math"
	"math/big"
	"math/rand"
	"testing"

	"horocycle/api"
)

// eachTable calls a check with the table of each level.
func eachTable(t *testing.T, check func(t *testing.T, f *table)) {
	t.Helper()
	for level := 1; level <= api.MaxLevel; level++ {
		check(t, newTable(level))
	}
}

// near1 returns a number by floating point, from its coefficients.
func near1(row []int64, at float64) float64 {
	sum := 0.0
	for i := len(row) - 1; i >= 0; i-- {
		sum = sum*at + float64(row[i])
	}
	return sum
}

// The polynomial of L has the degree of the field, begins with 1, and is 0 at the 2 cos (k pi / level) for all k that have no factor in common with 2 level.
func TestMinimal(t *testing.T) {
	eachTable(t, func(t *testing.T, f *table) {
		if len(f.minimal) != f.degree+1 || f.minimal[f.degree] != 1 {
			t.Fatal(f.level, f.minimal)
		}
		for k := 1; k <= f.level; k++ {
			at := 2 * math.Cos(float64(k)*math.Pi/float64(f.level))
			value := math.Abs(near1(f.minimal, at))
			if prime := gcdLimb(uint64(k), uint64(2*f.level)) == 1; prime != (value < 1e-5) {
				t.Errorf("level %d: the polynomial at 2 cos (%d pi / level) is %g", f.level, k, value)
			}
		}
	})
}

// The powers of L fit into an int64, on the way too.
func TestLows(t *testing.T) {
	eachTable(t, func(t *testing.T, f *table) {
		row := make([]*big.Int, f.degree)
		for i := range row {
			row[i] = new(big.Int)
		}
		row[0].SetInt64(1)
		for k := range 2*f.degree - 1 {
			if k >= f.degree {
				for i, c := range f.lows[k-f.degree] {
					wantWhole(t, "a power of L", c, row[i])
				}
			}
			top := row[f.degree-1]
			next := make([]*big.Int, f.degree)
			for i := range next {
				next[i] = new(big.Int).Mul(top, big.NewInt(-f.minimal[i]))
				if i > 0 {
					next[i].Add(next[i], row[i-1])
				}
			}
			row = next
		}
		if len(f.lows) != f.degree-1 {
			t.Error(f.level, len(f.lows))
		}
	})
}

// Bounds of L hold, and are narrow.
func TestNearRoot(t *testing.T) {
	eachTable(t, func(t *testing.T, f *table) {
		if f.degree == 1 {
			return
		}
		steps := 0
		for shift, powers := range f.closer {
			root := powers[1]
			width := root.high.sub(root.low)
			if len(powers) != f.degree || width.sign() <= 0 || width.bits() > 2*f.degree+8 {
				t.Fatalf("level %d: bounds of %d bits, with %d bits behind the point", f.level, width.bits(), shift)
			}
			// The polynomial has its greatest zero in between.
			if exact(f.minimal, root.low, shift).sign() >= 0 || exact(f.minimal, root.high, shift).sign() <= 0 {
				t.Fatalf("level %d: L is not between the bounds with %d bits behind the point", f.level, shift)
			}
			if want, got := 2*math.Cos(math.Pi/float64(f.level)), toFloat(root.low, shift); math.Abs(want-got) > 1e-9 {
				t.Fatalf("level %d: L is %g, want %g", f.level, got, want)
			}
			checkPowers(t, f, shift, powers)
			if steps++; steps == 4 {
				break
			}
		}
	})
}

// checkPowers checks that the powers of much nearer bounds of L lie between the bounds of its powers.
func checkPowers(t *testing.T, f *table, shift int, powers []span) {
	t.Helper()
	nearer := f.nearRoot(natural(2).up(4*shift), 4*shift)
	low, high := natural(1), natural(1)
	for i, p := range powers[1:] {
		low, high = low.mul(nearer.low), high.mul(nearer.high)
		if by := (4*(i+1) - 1) * shift; p.low.up(by).cmp(low) > 0 || p.high.up(by).cmp(high) < 0 {
			t.Fatalf("level %d: the bounds of L^%d do not hold", f.level, i+1)
		}
	}
}

// Powers of a number are between their bounds, when all of them have to be rounded.
func TestNearPowers(t *testing.T) {
	const shift = 70
	root := natural(3).up(shift - 1).add(natural(1))
	power := natural(1)
	for i, p := range nearPowers(span{root, root}, 20, shift) {
		by := max(i-1, 0) * shift
		if i == 0 {
			power = power.up(shift)
		} else if i == 1 {
			power = root
		} else {
			power = power.mul(root)
		}
		if p.low.up(by).cmp(power) > 0 || p.high.up(by).cmp(power) < 0 {
			t.Errorf("the bounds of the power %d do not hold", i)
		}
	}
}

// Bounds of numbers, of both signs, hold: nearer ones are never outside of them.
func TestSpans(t *testing.T) {
	r := rand.New(rand.NewSource(12))
	eachTable(t, func(t *testing.T, f *table) {
		for range 10 {
			x := &number{f, make([]whole, f.degree), natural(1)}
			for i := range x.coefficients {
				x.coefficients[i] = anyWhole(r, 3)
			}
			if x.rational() {
				continue
			}
			var last span
			for shift, bounds := range x.spans {
				if bounds.low.cmp(bounds.high) >= 0 {
					t.Fatalf("level %d: the upper bound is not above the lower one", f.level)
				}
				if shift > firstBits {
					if last.low.up(shift/2).cmp(bounds.high) > 0 || last.high.up(shift/2).cmp(bounds.low) < 0 {
						t.Fatalf("level %d: nearer bounds are outside", f.level)
					}
				}
				if last = bounds; shift == 4*firstBits {
					break
				}
			}
		}
	})
}

// exact returns a positive multiple of the value of a polynomial at x by 2^shift.
func exact(polynomial []int64, x whole, shift int) whole {
	var sum whole
	for i := len(polynomial) - 1; i >= 0; i-- {
		sum = sum.mul(x).add(small(polynomial[i]).up(shift * (len(polynomial) - 1 - i)))
	}
	return sum
}

func toFloat(x whole, shift int) float64 {
	top, _ := x.down(shift - 60).int64()
	return float64(top) / (1 << 60)
}

// Cosines are what they are called.
func TestCosine(t *testing.T) {
	eachTable(t, func(t *testing.T, f *table) {
		at := 2 * math.Cos(math.Pi/float64(f.level))
		for k := -3; k < 3*f.level; k++ {
			want := 2 * math.Cos(float64(k)*math.Pi/float64(f.level))
			if got := near1(f.cosine(k), at); math.Abs(got-want) > 1e-5 {
				t.Errorf("level %d: 2 cos (%d pi / level) is %g, want %g", f.level, k, got, want)
			}
		}
	})
}

// Products, of the greatest numbers of so many limbs too, against those of the library.
func TestProducts(t *testing.T) {
	r := rand.New(rand.NewSource(10))
	greatest := natural(1).up(128).sub(natural(1))
	eachTable(t, func(t *testing.T, f *table) {
		for count := range 10 {
			x, y := make([]whole, f.degree), make([]whole, f.degree)
			for i := range f.degree {
				x[i], y[i] = anyWhole(r, 3), anyWhole(r, 2)
				if count == 0 {
					x[i], y[i] = greatest, greatest.neg()
				}
			}
			want := make([]*big.Int, 2*f.degree-1)
			for i := range want {
				want[i] = new(big.Int)
			}
			for i, a := range x {
				for j, b := range y {
					want[i+j].Add(want[i+j], new(big.Int).Mul(big1(t, a), big1(t, b)))
				}
			}
			for top := len(want) - 1; top >= f.degree; top-- {
				for i := range f.degree {
					at := top - f.degree + i
					want[at].Sub(want[at], new(big.Int).Mul(want[top], big.NewInt(f.minimal[i])))
				}
			}
			for i, c := range f.product(x, y) {
				wantWhole(t, "product", c, want[i])
			}
		}
	})
}

// Quotients are found without a panic but the one that tells that they are too large.
func TestQuotients(t *testing.T) {
	r := rand.New(rand.NewSource(11))
	eachTable(t, func(t *testing.T, f *table) {
		x, y := make([]whole, f.degree), make([]whole, f.degree)
		for i := range f.degree {
			x[i], y[i] = small(r.Int63n(9)-4), small(r.Int63n(9)-4)
		}
		y[0] = y[0].add(small(20))
		a, b := &number{f, x, natural(6)}, &number{f, y, natural(35)}
		z := a.quotient(b).lowest()
		if !f.isQuotient(z, scale(x, natural(35)), scale(y, natural(6))) {
			t.Errorf("level %d: a quotient is wrong", f.level)
		}
		if f.isQuotient(z.plus(b), scale(x, natural(35)), scale(y, natural(6))) {
			t.Errorf("level %d: what is no quotient is taken for one", f.level)
		}
	})
}

// What is a quotient modulo a power of the prime alone is none.
func TestQuotientsModulo(t *testing.T) {
	f := newTable(7)
	y := []whole{small(2), small(1), small(-3)}
	prime, _ := f.invert(y)
	modulus := prime
	for range 4 {
		modulus = modulus.mul(modulus)
		z := []whole{modulus.mul(small(7)).add(natural(1)), modulus, small(0)}
		x := &number{f, f.product(y, z), natural(1)}
		got := x.quotient(&number{f, y, natural(1)}).lowest()
		for i, c := range got.coefficients {
			wantWhole(t, "quotient", c, big1(t, z[i]))
		}
	}
}

// Fractions that are short are found by what they are modulo a number; there are none for most numbers.
func TestFraction(t *testing.T) {
	r := rand.New(rand.NewSource(13))
	modulus, limit := natural(1).up(521).sub(natural(1)), 200
	number := func(bits int) whole {
		limbs := make([]uint64, 9)
		for i := range limbs {
			limbs[i] = r.Uint64()
		}
		return whole{false, trim(limbs)}.mod(natural(1).up(bits - 1)).add(natural(1).up(bits - 1))
	}
	for range 500 {
		above, below := number(1+r.Intn(limit)), number(1+r.Intn(limit))
		if r.Intn(2) == 0 {
			above = above.neg()
		}
		inverse, _ := readNatural(new(big.Int).ModInverse(big1(t, below), big1(t, modulus)).String())
		n, m, ok := fraction(above.mul(inverse).mod(modulus), modulus, limit)
		if !ok || m.sign() <= 0 || n.mul(below).cmp(m.mul(above)) != 0 {
			t.Fatal(above.text(), below.text(), n.text(), m.text(), ok)
		}
		if n, m, ok := fraction(number(520), modulus, limit); ok {
			t.Fatal(n.text(), m.text())
		}
	}
}

// Numbers that have no inverse modulo the first primes are divided by modulo other ones.
func TestPrimesThatDivide(t *testing.T) {
	f := newTable(7)
	product, count := natural(1), 0
	for p := range f.primes {
		if p <= 1<<16 || p%14 != 1 || !isPrime(p) {
			t.Fatal(p)
		}
		product = product.mul(natural(p))
		if count++; count == 5 {
			break
		}
	}
	y := []whole{product, product, product.neg()}
	prime, _ := f.invert(y)
	if !product.gcd(prime).one() {
		t.Error(prime.text(), "divides", product.text())
	}
	x := &number{f, f.product(y, []whole{small(3), small(-1), small(2)}), natural(1)}
	if z := (Elem{x.quotient(&number{f, y, natural(1)}).lowest()}); z.Text() != "3 -1 2" {
		t.Error(z.Text())
	}
}
