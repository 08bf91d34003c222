package field

import "math/bits"

// gcd returns the greatest common divisor of x and y, positive unless both are 0.
func (x whole) gcd(y whole) whole {
	a, b := x.abs(), y.abs()
	if a.cmp(b) < 0 {
		a, b = b, a
	}
	for len(b.limbs) > 1 {
		a, b = euclid(a, b)
	}
	if b.zero() {
		return a
	}
	_, rest := divLimb(a.limbs, b.limbs[0])
	return natural(gcdLimb(b.limbs[0], rest))
}

// gcdLimb returns the greatest common divisor of a and b.
func gcdLimb(a, b uint64) uint64 {
	for b != 0 {
		a, b = b, a%b
	}
	return a
}

// euclid returns two neighbours in the row of rests behind a and b, in which a is at least b, which has two limbs at least.
func euclid(a, b whole) (whole, whole) {
	c := foresee(leading(a.limbs, b.limbs))
	if c.a1 == 0 {
		return b, a.mod(b)
	}
	return a.cross(c.a0, b, c.b0).abs(), a.cross(c.a1, b, c.b1).abs()
}

// leading returns the first 64 binary digits of a, and the digits of b at the same places.
func leading(a, b []uint64) (uint64, uint64) {
	n := len(a)
	by := uint(bits.LeadingZeros64(a[n-1]))
	first := func(x []uint64) uint64 {
		switch {
		case len(x) == n:
			return x[n-1]<<by | x[n-2]>>(64-by)
		case len(x) == n-1:
			return x[n-2] >> (64 - by)
		}
		return 0
	}
	return first(a), first(b)
}

// factors tell two neighbours in a row of rests by the two numbers at its beginning, a and b:
// they are the differences of a0 a and b0 b, and of a1 a and b1 b.
type factors struct {
	a0, b0, a1, b1 uint64
}

// foresee returns how far Euclid's way from two long numbers can be foreseen by their first 64 binary digits alone:
// as long as Jebelean's condition holds, the digits that are not looked at do not change the quotients.
func foresee(a, b uint64) factors {
	c := factors{a0: 1, b1: 1}
	for b != 0 {
		times, rest := a/b, a%b
		next := factors{c.a1, c.b1, c.a0 + times*c.a1, c.b0 + times*c.b1}
		if rest < next.b1 || b-rest < next.b0+next.b1 {
			break
		}
		a, b, c = b, rest, next
	}
	return c
}

// cross returns the difference of s x and t y.
func (x whole) cross(s uint64, y whole, t uint64) whole {
	sum := newSums(1, max(len(x.limbs), len(y.limbs))+1)
	sum.add(0, x, natural(s))
	sum.add(0, y, natural(t).neg())
	return sum.end(0)
}
