package plane

import (
	"math/big"
	"math/rand"
	"strings"
	"testing"

	"horocycle/api"
	"horocycle/field"
)

// long returns the number of a triangle with some whole coefficients, of any length.
func long(t *testing.T, tr *triangle, coefficients ...*big.Int) field.Elem {
	t.Helper()
	sum, power := tr.field.Int(0), tr.field.Int(1)
	for _, c := range coefficients {
		sum = sure(sum.Add(sure(tr.fraction(c.String()).Mul(power))))
		power = sure(power.Mul(tr.field.Cos(1)))
	}
	return sum
}

// tenTo returns 10 to the power of n.
func tenTo(n int64) *big.Int {
	return new(big.Int).Exp(big.NewInt(10), big.NewInt(n), nil)
}

// checkMultiple checks x + c y for c = L, in the field of the level 5 (L L is 1 + L): b0 + (b0 + b1) L is L y.
func checkMultiple(t *testing.T, tr *triangle, c field.Elem, a0, a1, b0, b1 *big.Int) (full bool) {
	t.Helper()
	x, y := long(t, tr, a0, a1), long(t, tr, b0, b1)
	want0, want1 := new(big.Int).Add(a0, b1), new(big.Int).Add(a1, new(big.Int).Add(b0, b1))
	got, err := attempt(func() field.Elem { return tr.addMultiple(x, c, y) })
	full = want0.CmpAbs(tenTo(api.MaxDigits)) >= 0 || want1.CmpAbs(tenTo(api.MaxDigits)) >= 0
	switch {
	case full && (err != api.ErrFull || got.Text() != ""):
		t.Errorf("%.20s %.20s: %d, not ErrFull", want0, want1, err)
	case !full && (err != api.OK || got.Text() != want0.String()+" "+want1.String()):
		t.Errorf("%.20s %.20s: %d, %.20s", want0, want1, err, got.Text())
	}
	return full
}

// Sums of numbers and multiples are too great just if the sum is, to the last digit.
func TestAddMultiple(t *testing.T) {
	tr := newTriangle(api.Orders{M01: 5, M12: 5, M02: 5}, 5)
	c := tr.cosines[0][1]
	limit := tenTo(api.MaxDigits)
	nines := new(big.Int).Sub(limit, big.NewInt(1))
	// Of nines and nines the second coefficient of L y is too great by nearly as much as the limit.
	for _, off := range []int64{-2, -1, 0, 1, 2} {
		for _, sign := range []int64{1, -1} {
			edge := new(big.Int).Add(nines, big.NewInt(off)) // the sum is to be this one
			signed := func(n *big.Int) *big.Int { return new(big.Int).Mul(n, big.NewInt(sign)) }
			a1 := new(big.Int).Sub(edge, new(big.Int).Add(nines, nines))
			if a1.CmpAbs(limit) < 0 {
				checkMultiple(t, tr, c, signed(big.NewInt(7)), signed(a1), signed(nines), signed(new(big.Int).Sub(nines, big.NewInt(9))))
				checkMultiple(t, tr, c, new(big.Int).Neg(signed(nines)), signed(a1), signed(nines), signed(nines))
			}
		}
	}
	// The digits that are cut and the others may have different signs: the sum is 10^1000 less something.
	r := rand.New(rand.NewSource(1))
	full := 0
	for range 300 {
		b0 := new(big.Int).Sub(limit, new(big.Int).Rand(r, tenTo(r.Int63n(120)+1)))
		b1 := new(big.Int).Rand(r, tenTo(r.Int63n(999)+1))
		over := new(big.Int).Sub(new(big.Int).Add(b0, b1), limit)
		a1 := new(big.Int).Sub(new(big.Int).Neg(over), new(big.Int).Rand(r, tenTo(r.Int63n(120))))
		if r.Intn(4) == 0 {
			a1.Add(a1, new(big.Int).Rand(r, tenTo(r.Int63n(120))))
		}
		if a1.CmpAbs(limit) >= 0 {
			continue
		}
		if checkMultiple(t, tr, c, big.NewInt(r.Int63()), a1, b0, b1) {
			full++
		}
		checkMultiple(t, tr, c, big.NewInt(-r.Int63()), new(big.Int).Neg(a1), new(big.Int).Neg(b0), new(big.Int).Neg(b1))
	}
	if full < 10 || full > 250 {
		t.Error("sums that are too great:", full)
	}
}

// A number is cut into two parts of the same sign.
func TestSplit(t *testing.T) {
	tr := newTriangle(api.Orders{M01: 5, M12: 5, M02: 5}, 5)
	zeros := strings.Repeat("0", cutDigits)
	for _, c := range []struct{ text, high, low string }{
		{"0 0", "0 0", "0 0"},
		{"12 -34", "0 0", "12 -34"},
		{"1" + zeros + " -2" + zeros, "1 -2", "0 0"},
		{"-1" + zeros[1:] + "5 9", "-1 0", "-5 9"},
		{"-123" + zeros[2:] + "40 " + strings.Repeat("9", cutDigits+1), "-123 9", "-40 " + strings.Repeat("9", cutDigits)},
	} {
		x, err := tr.field.Read(c.text)
		if err != api.OK {
			t.Fatal(c.text, err)
		}
		if high, low := tr.split(x); high.Text() != c.high || low.Text() != c.low {
			t.Errorf("%s is cut into %s and %s", c.text, high.Text(), low.Text())
		}
	}
}

// What is thrown, whatever it is, is no panic for those who call.
func TestAttempt(t *testing.T) {
	for _, c := range []struct {
		thrown any
		want   api.Errno
	}{{nil, api.OK}, {api.ErrOut, api.ErrOut}, {api.ErrFull, api.ErrFull}, {"something else", api.ErrFull}} {
		got, err := attempt(func() int {
			if c.thrown != nil {
				panic(c.thrown)
			}
			return 7
		})
		if err != c.want || (got == 7) != (err == api.OK) {
			t.Errorf("%v: %d, %d", c.thrown, got, err)
		}
	}
}

// Letters are yielded in both orders, and no more of them than are asked for.
func TestLetters(t *testing.T) {
	word := "\x00\x01\x02\x02"
	for stop := range 6 {
		var there, back []int
		for letter := range forward(word) {
			if len(there) == stop {
				break
			}
			there = append(there, letter)
		}
		for letter := range backward(word) {
			if len(back) == stop {
				break
			}
			back = append(back, letter)
		}
		want := min(stop, len(word))
		if len(there) != want || len(back) != want {
			t.Error(stop, there, back)
		}
		for i := range want {
			if there[i] != int(word[i]) || back[i] != int(word[len(word)-1-i]) {
				t.Error(stop, there, back)
			}
		}
	}
}
