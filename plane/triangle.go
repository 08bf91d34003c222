package plane

import (
	"horocycle/api"
	"horocycle/field"
)

// triangle is what a world and its points know of the first tile. It is never changed.
type triangle struct {
	orders  api.Orders
	field   *field.Field
	cosines [3][3]field.Elem // cij, twice the cosine of the angle between the mirrors i and j; none for i = j
	form    [3][3]field.Elem // Aij
}

// newTriangle returns the triangle of allowed orders, with the level that they need.
func newTriangle(o api.Orders, level int) *triangle {
	numbers, _ := field.New(level)
	t := &triangle{orders: o, field: numbers}
	for i := range 3 {
		for j := range 3 {
			if i != j {
				t.cosines[i][j] = t.cosine(between(o, i, j))
			}
		}
	}
	for i := range 3 {
		for j := range 3 {
			t.form[i][j] = t.coefficient(i, j)
		}
	}
	return t
}

// cosine returns twice the cosine of the angle of an order.
func (t *triangle) cosine(order int) field.Elem {
	if order == 0 {
		return t.field.Int(2)
	}
	return t.field.Cos(t.field.Level() / order)
}

// coefficient returns Aij.
func (t *triangle) coefficient(i, j int) field.Elem {
	if i == j {
		c := t.cosines[(i+1)%3][(i+2)%3]
		return sure(t.field.Int(4).Sub(sure(c.Mul(c))))
	}
	k := 3 - i - j
	twice := sure(t.field.Int(2).Mul(t.cosines[i][j]))
	return sure(twice.Add(sure(t.cosines[i][k].Mul(t.cosines[j][k]))))
}

// between returns the order of the corner between two different mirrors.
func between(o api.Orders, i, j int) int {
	switch i + j {
	case 1:
		return o.M01
	case 2:
		return o.M02
	}
	return o.M12
}

// level returns the level of the field that orders need, or their error.
func level(o api.Orders) (int, api.Errno) {
	orders := []int{o.M01, o.M12, o.M02}
	common := 1
	for _, m := range orders {
		if m < 0 || m == 1 || m > api.MaxOrder {
			return 0, api.ErrArg
		}
		if m != 0 {
			common = common / gcd(common, m) * m
		}
	}
	// The angles together, as a multiple of pi by the common multiple.
	angles := 0
	for _, m := range orders {
		if m != 0 {
			angles += common / m
		}
	}
	if angles >= common {
		return 0, api.ErrArg
	}
	if common > api.MaxLevel {
		return 0, api.ErrFull
	}
	return common, api.OK
}

// gcd returns the greatest common divisor of positive numbers.
func gcd(a, b int) int {
	for b != 0 {
		a, b = b, a%b
	}
	return a
}
