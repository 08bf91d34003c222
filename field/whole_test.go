package field

import (
	"math"
	"math/big"
	"math/rand"
	"strings"
	"testing"
)

// anyWhole returns a number of up to so many limbs, many of them 0, all ones, or a power of 2: there carries go far, and guesses of quotients fail.
func anyWhole(r *rand.Rand, most int) whole {
	limbs := make([]uint64, r.Intn(most+1))
	for i := range limbs {
		switch r.Intn(6) {
		case 0:
			limbs[i] = 0
		case 1:
			limbs[i] = math.MaxUint64
		case 2:
			limbs[i] = 1 << r.Intn(64)
		case 3:
			limbs[i] = math.MaxUint64 << r.Intn(64)
		default:
			limbs[i] = r.Uint64() >> r.Intn(64)
		}
	}
	return signed(r.Intn(2) == 0, trim(limbs))
}

// big1 returns a number as one of the library, and checks that it is well formed.
func big1(t *testing.T, x whole) *big.Int {
	t.Helper()
	if n := len(x.limbs); n > 0 && x.limbs[n-1] == 0 || n == 0 && x.minus {
		t.Fatal("not well formed:", x)
	}
	z := new(big.Int)
	for i := len(x.limbs) - 1; i >= 0; i-- {
		z.Add(z.Lsh(z, 64), new(big.Int).SetUint64(x.limbs[i]))
	}
	if x.minus {
		z.Neg(z)
	}
	return z
}

func wantWhole(t *testing.T, what string, got whole, want *big.Int) {
	t.Helper()
	if big1(t, got).Cmp(want) != 0 {
		t.Fatalf("%s: %s, want %s", what, got.text(), want)
	}
}

func TestWholeAgainstBig(t *testing.T) {
	r := rand.New(rand.NewSource(6))
	for range 20000 {
		x, y, n := anyWhole(r, 7), anyWhole(r, 5), r.Intn(200)
		a, b := big1(t, x), big1(t, y)
		wantWhole(t, "add", x.add(y), new(big.Int).Add(a, b))
		wantWhole(t, "sub", x.sub(y), new(big.Int).Sub(a, b))
		wantWhole(t, "sub of itself", x.sub(x), new(big.Int))
		wantWhole(t, "mul", x.mul(y), new(big.Int).Mul(a, b))
		wantWhole(t, "up", x.up(n), new(big.Int).Lsh(a, uint(n)))
		wantWhole(t, "down", x.down(n), new(big.Int).Rsh(a, uint(n)))
		wantWhole(t, "neg", x.neg(), new(big.Int).Neg(a))
		wantWhole(t, "abs", x.abs(), new(big.Int).Abs(a))
		wantWhole(t, "gcd", x.gcd(y), new(big.Int).GCD(nil, nil, new(big.Int).Abs(a), new(big.Int).Abs(b)))
		if x.cmp(y) != a.Cmp(b) || x.cmp(x) != 0 || x.sign() != a.Sign() || x.bits() != a.BitLen() || x.text() != a.String() {
			t.Fatal("cmp, sign, bits or text of", a, b)
		}
		if small, ok := x.int64(); ok != a.IsInt64() || ok && small != a.Int64() || !ok && small != 0 {
			t.Fatal("int64 of", a)
		}
		if !y.zero() {
			quotient, rest := new(big.Int).DivMod(a, b.Abs(b), new(big.Int))
			q, m := x.div(y.abs())
			wantWhole(t, "quotient", q, quotient)
			wantWhole(t, "rest", m, rest)
			wantWhole(t, "mod", x.mod(y.abs()), rest)
			wantWhole(t, "by", x.mul(y).by(y.abs()).abs(), new(big.Int).Abs(a))
		}
	}
}

// Common divisors of long numbers, where the quotients on the way are foreseen, or cannot be.
func TestGcdOfLongNumbers(t *testing.T) {
	r := rand.New(rand.NewSource(7))
	for range 3000 {
		common := anyWhole(r, 6)
		x, y := anyWhole(r, 12).mul(common), anyWhole(r, 12).mul(common)
		wantWhole(t, "gcd", x.gcd(y), new(big.Int).GCD(nil, nil, big1(t, x.abs()), big1(t, y.abs())))
	}
	// Following Fibonacci numbers have the most steps.
	x, y := natural(1), natural(1)
	for range 3000 {
		x, y = y, x.add(y)
	}
	if !x.gcd(y).one() || !y.gcd(x).one() {
		t.Error("the greatest common divisor of Fibonacci numbers is", x.gcd(y).text())
	}
	wantWhole(t, "gcd", x.mul(natural(12)).gcd(y.mul(natural(18)).neg()), big.NewInt(6))
}

func TestReadNatural(t *testing.T) {
	r := rand.New(rand.NewSource(8))
	for range 2000 {
		text := anyWhole(r, 9).abs().text()
		if x, ok := readNatural(text); !ok || x.text() != text {
			t.Errorf("%s: %s, %t", text, x.text(), ok)
		}
	}
	for _, text := range []string{"", "00", "01", "-1", "+1", "1 ", "1a", ":", "/"} {
		if x, ok := readNatural(text); ok || !x.zero() {
			t.Errorf("%q: %s, %t", text, x.text(), ok)
		}
	}
}

func TestFits(t *testing.T) {
	for _, digits := range []int{1, 2, 18, 19, 20, 1000} {
		for text, want := range map[string]bool{strings.Repeat("9", digits): true, "1" + strings.Repeat("0", digits): false, strings.Repeat("9", digits+1): false, strings.Repeat("9", 2*digits): false, "1" + strings.Repeat("0", digits-1): true, "0": true} {
			x, _ := readNatural(text)
			if x.fits(digits) != want || x.neg().fits(digits) != want {
				t.Errorf("%.30s: at most %d digits: %t", text, digits, !want)
			}
		}
	}
}

func TestAddLimbsOf32Bits(t *testing.T) {
	got := addLimbs([]uint32{math.MaxUint32, math.MaxUint32}, []uint32{1})
	if len(got) != 3 || got[0] != 0 || got[1] != 0 || got[2] != 1 {
		t.Error(got)
	}
}

// Sums change their sign on the way, as often as one likes.
func TestSums(t *testing.T) {
	r := rand.New(rand.NewSource(9))
	for range 2000 {
		s := newSums(3, 8)
		want := [3]*big.Int{new(big.Int), new(big.Int), new(big.Int)}
		for range r.Intn(60) {
			i, x, y := r.Intn(3), anyWhole(r, 4), anyWhole(r, 4)
			s.add(i, x, y)
			want[i].Add(want[i], new(big.Int).Mul(big1(t, x), big1(t, y)))
		}
		for i, x := range s.ends(3) {
			wantWhole(t, "sum", x, want[i])
		}
	}
}
