package tiles

import (
	"slices"

	"horocycle/api"
)

// number is a coefficient: a whole number, or one modulo 2^64.
type number interface {
	int | uint64
}

// fraction is a fraction of polynomials, which are rows of coefficients from that of t^0 on.
type fraction[N number] struct {
	num, den []N
}

// series returns the fraction whose power series counts the tiles of the rings (P4.2).
func series[N number](o api.Orders) fraction[N] {
	side := []N{1, 1}
	turned := fraction[N]{[]N{1}, []N{1}} // 1 / f(1/t)
	turned = turned.plus(fraction[N]{[]N{-N(3)}, side})
	for _, m := range []int{o.M01, o.M12, o.M02} {
		if m != 0 {
			turned = turned.plus(fraction[N]{[]N{1}, product(side, slices.Repeat([]N{1}, m))})
		}
	}
	// Both have the same degree, and 1 ahead of their greatest powers, as all summands but 1 are less the greater t is: 1/t in place of t turns the rows around.
	slices.Reverse(turned.num)
	slices.Reverse(turned.den)
	return fraction[N]{turned.den, turned.num}
}

// plus returns the sum of two fractions.
func (f fraction[N]) plus(g fraction[N]) fraction[N] {
	return fraction[N]{sum(product(f.num, g.den), product(g.num, f.den)), product(f.den, g.den)}
}

// coefficient returns that of t^n in the power series of a fraction whose constant terms are 1.
func (f fraction[N]) coefficient(n int) N {
	row := make([]N, n+1)
	copy(row, f.num)
	for at := range row {
		for back := 1; back <= min(at, len(f.den)-1); back++ {
			row[at] -= f.den[back] * row[at-back]
		}
	}
	return row[n]
}

// lowest returns a series in lowest terms: all factors of its numerator divide t^m - 1 for an order m.
func lowest(f fraction[int]) fraction[int] {
	for m := 2; m <= api.MaxOrder; m++ {
		for factor := primitive(m); ; {
			num, rest := divide(f.num, factor)
			den, other := divide(f.den, factor)
			if len(trim(rest)) > 0 || len(trim(other)) > 0 {
				break
			}
			f = fraction[int]{num, den}
		}
	}
	return f
}

// primitive returns the polynomial, not a product of others, whose roots are the primitive m-th ones of 1.
func primitive(m int) []int {
	roots := make([]int, m+1) // those of t^m - 1
	roots[0], roots[m] = -1, 1
	for k := 1; k < m; k++ {
		if m%k == 0 {
			roots, _ = divide(roots, primitive(k))
		}
	}
	return roots
}

// divide returns the quotient of polynomials, and the rest. The divisor has 1 ahead of its greatest power.
func divide[N number](dividend, divisor []N) (quotient, rest []N) {
	rest = slices.Clone(dividend)
	quotient = make([]N, max(0, len(dividend)-len(divisor)+1))
	for at := len(quotient) - 1; at >= 0; at-- {
		quotient[at] = rest[at+len(divisor)-1]
		for i, c := range divisor {
			rest[at+i] -= quotient[at] * c
		}
	}
	return quotient, rest
}

// sum returns the sum of two polynomials.
func sum[N number](a, b []N) []N {
	s := make([]N, max(len(a), len(b)))
	copy(s, a)
	for i, c := range b {
		s[i] += c
	}
	return s
}

// product returns the product of two polynomials.
func product[N number](a, b []N) []N {
	p := make([]N, len(a)+len(b)-1)
	for i, c := range a {
		for k, d := range b {
			p[i+k] += c * d
		}
	}
	return p
}

// trim returns a polynomial without the zeros behind its last other coefficient.
func trim[N number](a []N) []N {
	for len(a) > 0 && a[len(a)-1] == 0 {
		a = a[:len(a)-1]
	}
	return a
}
