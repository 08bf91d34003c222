package field

import (
	"strings"

	"horocycle/api"
)

// Text returns the text of a number.
func (x Elem) Text() string {
	if x.number == nil {
		return ""
	}
	parts := make([]string, x.degree)
	for i := range parts {
		above, below := x.coefficient(i)
		parts[i] = above.text()
		if !below.one() {
			parts[i] += "/" + below.text()
		}
	}
	return strings.Join(parts, " ")
}

// Read returns the number of a text.
func (f *Field) Read(text string) (Elem, api.Errno) {
	if f.none() {
		return Elem{}, api.ErrArg
	}
	if len(text) > api.MaxText {
		return Elem{}, api.ErrForm
	}
	parts := strings.Split(text, " ")
	if len(parts) != f.degree {
		return Elem{}, api.ErrForm
	}
	above, below := make([]whole, f.degree), make([]whole, f.degree)
	for i, part := range parts {
		var ok bool
		if above[i], below[i], ok = readFraction(part); !ok {
			return Elem{}, api.ErrForm
		}
	}
	return finish(func() *number { return f.ofFractions(above, below) })
}

// readFraction returns the fraction of a text, and whether it is one in lowest terms.
func readFraction(text string) (above, below whole, ok bool) {
	digits, minus := strings.CutPrefix(text, "-")
	digits, divisor, divided := strings.Cut(digits, "/")
	above, ok = readNatural(digits)
	if !ok || minus && above.zero() {
		return whole{}, whole{}, false
	}
	above.minus = minus
	if !divided {
		return above, natural(1), true
	}
	below, ok = readNatural(divisor)
	return above, below, ok && !below.zero() && !below.one() && above.gcd(below).one()
}
