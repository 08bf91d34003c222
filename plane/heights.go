package plane

import (
	"strings"

	"horocycle/api"
	"horocycle/field"
)

// heights are heights above the mirrors of the first tile.
type heights [3]field.Elem

// attempt returns what is made, or the error that is thrown on the way.
func attempt[T any](do func() T) (result T, err api.Errno) {
	defer func() {
		switch thrown := recover().(type) {
		case nil:
		case api.Errno:
			err = thrown
		default:
			err = api.ErrFull
		}
	}()
	return do(), api.OK
}

// sure returns a number, and throws ErrFull if it is too great: numbers of one triangle have no other error.
func sure(x field.Elem, err api.Errno) field.Elem {
	if err != api.OK {
		panic(api.ErrFull)
	}
	return x
}

// whole returns heights that are whole numbers.
func (t *triangle) whole(x0, x1, x2 int64) heights {
	return heights{t.field.Int(x0), t.field.Int(x1), t.field.Int(x2)}
}

// unit returns the heights with 1 above one mirror, and 0 above the others.
func (t *triangle) unit(mirror int) heights {
	x := t.whole(0, 0, 0)
	x[mirror] = t.field.Int(1)
	return x
}

// product returns N(x, y).
func (t *triangle) product(x, y heights) field.Elem {
	sum := t.field.Int(0)
	for i, row := range t.form {
		part := t.field.Int(0)
		for j, a := range row {
			part = sure(part.Add(sure(a.Mul(y[j]))))
		}
		sum = sure(sum.Add(sure(part.Mul(x[i]))))
	}
	return sum
}

// isPoint reports whether heights are those of a point of the plane.
func (t *triangle) isPoint(x heights) bool {
	return t.product(x, x).Sign() > 0 && t.product(x, t.whole(1, 1, 1)).Sign() > 0
}

// cmpDist returns the sign of the distance of p and q less that of r and s.
func (t *triangle) cmpDist(p, q, r, s heights) int {
	return compare(t.distance(p, q, r, s), t.distance(r, s, p, q))
}

// distance returns N(p, q)^2 / (N(p, p) N(q, q)), with which the distance of p and q grows, times the N of all four points with
// themselves, which are positive.
func (t *triangle) distance(p, q, r, s heights) field.Elem {
	near, far := t.product(p, q), sure(t.product(r, r).Mul(t.product(s, s)))
	return sure(sure(near.Mul(near)).Mul(far))
}

// same reports whether the heights of two points are the same up to a factor. It is positive: N(x, (1, 1, 1)) is.
func (t *triangle) same(x, y heights) bool {
	for i := range 3 {
		j := (i + 1) % 3
		if compare(sure(x[i].Mul(y[j])), sure(x[j].Mul(y[i]))) != 0 {
			return false
		}
	}
	return true
}

// compare returns the sign of x - y, for numbers of one triangle.
func compare(x, y field.Elem) int {
	sign, _ := x.Cmp(y)
	return sign
}

// reflect returns the heights of the point that is reflected at a mirror. Heights in lowest terms stay in lowest terms.
func (t *triangle) reflect(mirror int, x heights) heights {
	y := x
	for j, c := range t.cosines[mirror] {
		if j == mirror {
			y[j] = sure(t.field.Int(0).Sub(x[j]))
		} else {
			y[j] = t.addMultiple(x[j], c, x[mirror])
		}
	}
	return y
}

// addMultiple returns x + c y for heights in lowest terms, and throws ErrFull just if the sum is too great.
func (t *triangle) addMultiple(x, c, y field.Elem) field.Elem {
	if multiple, err := c.Mul(y); err == api.OK {
		return sure(x.Add(multiple))
	}
	// c y is too great, but the sum need not be. It is high times the cut, and low. High and low are not too great, as
	// they are much shorter; high, and low by the cut, is the sum by the cut, so that it is too great only if the sum is.
	xHigh, xLow := t.split(x)
	yHigh, yLow := t.split(y)
	high := sure(xHigh.Add(sure(c.Mul(yHigh))))
	low := sure(xLow.Add(sure(c.Mul(yLow))))
	cut := t.cut()
	return sure(sure(high.Add(sure(low.Div(cut)))).Mul(cut))
}

// cutDigits is how many digits are cut from a number that is too long.
const cutDigits = 100

// cut returns 10 to the power of cutDigits.
func (t *triangle) cut() field.Elem {
	return t.fraction("1" + strings.Repeat("0", cutDigits))
}

// split returns two numbers with whole coefficients: x is the first one times cut, and the second one.
func (t *triangle) split(x field.Elem) (high, low field.Elem) {
	parts := coefficients(x)
	for i, part := range parts {
		parts[i] = lastDigits(part)
	}
	low = sure(t.field.Read(strings.Join(parts, " ")))
	return sure(sure(x.Sub(low)).Div(t.cut())), low
}

// lastDigits returns the text of the whole number of the last digits of another one, with its sign.
func lastDigits(text string) string {
	digits, minus := strings.CutPrefix(text, "-")
	digits = strings.TrimLeft(digits[max(len(digits)-cutDigits, 0):], "0")
	switch {
	case digits == "":
		return "0"
	case minus:
		return "-" + digits
	}
	return digits
}

// coefficients returns the texts of the coefficients of a number.
func coefficients(x field.Elem) []string {
	return strings.Split(x.Text(), " ")
}

// fraction returns the number that is the fraction of a text.
func (t *triangle) fraction(text string) field.Elem {
	return sure(t.field.Read(text + strings.Repeat(" 0", t.field.Degree()-1)))
}
