// Package field is layer 1, the real fields of cosines, with exact arithmetic and exact order: see shared/doc/01-field.md.
package field

import "horocycle/api"

// Field is the field of a level.
type Field struct {
	*table
}

// Elem is a number of a field.
type Elem struct {
	*number
}

// New returns the field of a level.
func New(level int) (*Field, api.Errno) {
	if level < 1 || level > api.MaxLevel {
		return nil, api.ErrArg
	}
	return &Field{newTable(level)}, api.OK
}

// none reports whether f is not a field that New has returned.
func (f *Field) none() bool {
	return f == nil || f.table == nil
}

// Level returns the level.
func (f *Field) Level() int {
	if f.none() {
		return 0
	}
	return f.level
}

// Degree returns the degree.
func (f *Field) Degree() int {
	if f.none() {
		return 0
	}
	return f.degree
}

// Int returns a whole number.
func (f *Field) Int(n int64) Elem {
	if f.none() {
		return Elem{}
	}
	coefficients := make([]whole, f.degree)
	coefficients[0] = small(n)
	return Elem{&number{f.table, coefficients, natural(1)}}
}

// Cos returns 2 cos (k pi / level).
func (f *Field) Cos(k int) Elem {
	if f.none() {
		return Elem{}
	}
	return Elem{&number{f.table, wholes(f.cosine(k)), natural(1)}}
}

// together returns the error of two numbers that are to be reckoned with.
func together(x, y Elem) api.Errno {
	if x.number == nil || y.number == nil {
		return api.ErrArg
	}
	if x.level != y.level {
		return api.ErrField
	}
	return api.OK
}

// finish returns the number that is made, in lowest terms, or ErrFull if it is too large.
func finish(make func() *number) (x Elem, err api.Errno) {
	defer func() {
		if recover() != nil {
			x, err = Elem{}, api.ErrFull
		}
	}()
	return Elem{make().lowest().fit()}, api.OK
}

// combine returns what a way to reckon makes of two numbers.
func combine(x, y Elem, way func(x, y *number) *number) (Elem, api.Errno) {
	if err := together(x, y); err != api.OK {
		return Elem{}, err
	}
	return finish(func() *number { return way(x.number, y.number) })
}

// Add returns x + y.
func (x Elem) Add(y Elem) (Elem, api.Errno) {
	return combine(x, y, (*number).plus)
}

// Sub returns x - y.
func (x Elem) Sub(y Elem) (Elem, api.Errno) {
	return combine(x, y, (*number).minus)
}

// Mul returns x * y.
func (x Elem) Mul(y Elem) (Elem, api.Errno) {
	return combine(x, y, (*number).times)
}

// Div returns x / y.
func (x Elem) Div(y Elem) (Elem, api.Errno) {
	if err := together(x, y); err != api.OK {
		return Elem{}, err
	}
	if y.zero() {
		return Elem{}, api.ErrField
	}
	return combine(x, y, (*number).quotient)
}

// Sign returns -1, 0 or 1.
func (x Elem) Sign() int {
	if x.number == nil {
		return 0
	}
	return x.sign()
}

// Cmp returns -1, 0 or 1 as x is less than y, the same, or greater.
func (x Elem) Cmp(y Elem) (int, api.Errno) {
	if err := together(x, y); err != api.OK {
		return 0, err
	}
	return x.minus(y.number).sign(), api.OK
}

// Floor returns the greatest whole number that is not greater, if it is an int64.
func (x Elem) Floor() (int64, api.Errno) {
	if x.number == nil {
		return 0, api.ErrArg
	}
	n, ok := x.floor().int64()
	if !ok {
		return 0, api.ErrFull
	}
	return n, api.OK
}
