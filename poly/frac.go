package poly

import "horocycle/api"

// frac is a fraction in lowest terms.
type frac api.Frac

// straight returns the angle of half a turn, in parts of pi.
func straight() frac {
	return frac{1, 1}
}

// part returns the angle of a tile at a corner of some order, in parts of pi.
func part(order int) frac {
	if order == 0 {
		return frac{0, 1}
	}
	return frac{1, order}
}

// lowest returns a fraction in lowest terms.
func lowest(num, den int) frac {
	a, b := num, den
	for b != 0 {
		a, b = b, a%b
	}
	if a < 0 {
		a = -a
	}
	return frac{num / a, den / a}
}

// minus returns the difference of two fractions.
func (f frac) minus(g frac) frac {
	return lowest(f.Num*g.Den-g.Num*f.Den, f.Den*g.Den)
}

// times returns a fraction as many times.
func (f frac) times(n int) frac {
	return lowest(f.Num*n, f.Den)
}

// exceeds reports whether a fraction is greater than another one.
func (f frac) exceeds(g frac) bool {
	return f.minus(g).Num > 0
}
