package plane

import (
	"strings"

	"horocycle/api"
	"horocycle/field"
)

// lowest returns heights in lowest terms, and throws ErrFull if they are not small.
//
// Divided by the first coefficient that is not 0, without its sign, all coefficients are fractions, and the least common
// multiple of their denominators is this coefficient in lowest terms. So the numerators and denominators on the way divide
// coefficients in lowest terms: where one of them is ErrFull, the heights are not small.
func (t *triangle) lowest(x heights) heights {
	first := firstCoefficient(x)
	if first == "0" {
		return x
	}
	unit, multiple := t.fraction(first), t.field.Int(1)
	for i := range x {
		x[i] = sure(x[i].Div(unit))
		for _, part := range coefficients(x[i]) {
			multiple = t.commonMultiple(multiple, denominator(part))
		}
	}
	for i := range x {
		x[i] = sure(x[i].Mul(multiple))
		for _, part := range coefficients(x[i]) {
			if len(strings.TrimPrefix(part, "-")) > api.MaxHeight {
				panic(api.ErrFull)
			}
		}
	}
	return x
}

// firstCoefficient returns the first coefficient that is not 0, without its sign, or 0 if there is none.
func firstCoefficient(x heights) string {
	for _, number := range x {
		for _, part := range coefficients(number) {
			if part != "0" {
				return strings.TrimPrefix(part, "-")
			}
		}
	}
	return "0"
}

// denominator returns the denominator of a fraction.
func denominator(text string) string {
	if _, below, divided := strings.Cut(text, "/"); divided {
		return below
	}
	return "1"
}

// commonMultiple returns the least common multiple of x and a number, both whole and positive.
func (t *triangle) commonMultiple(x field.Elem, other string) field.Elem {
	if other == "1" {
		return x
	}
	// The denominator of x by the other one is what x lacks.
	quotient := sure(x.Div(t.fraction(other)))
	return sure(x.Mul(t.fraction(denominator(coefficients(quotient)[0]))))
}
