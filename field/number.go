package field

import "horocycle/api"

// number is a number of a field: the sum of the coefficients, each with its power of L, by a positive denominator.
// Numbers that are handed out are in lowest terms: the coefficients and the denominator have no common divisor.
type number struct {
	*table
	coefficients []whole
	denominator  whole
}

// tooLarge is what is thrown where a number is ErrFull.
type tooLarge struct{}

// ofFractions returns the number whose coefficients are fractions with positive denominators.
func (t *table) ofFractions(above, below []whole) *number {
	denominator := natural(1)
	for _, b := range below {
		denominator = denominator.mul(b.by(b.gcd(denominator)))
	}
	coefficients := make([]whole, len(above))
	for i, a := range above {
		coefficients[i] = a.mul(denominator.by(below[i]))
	}
	return &number{t, coefficients, denominator}
}

// lowest returns x in lowest terms.
func (x *number) lowest() *number {
	common := x.denominator
	for _, c := range x.coefficients {
		if common.one() {
			return x
		}
		common = common.gcd(c)
	}
	shorter := make([]whole, x.degree)
	for i, c := range x.coefficients {
		shorter[i] = c.by(common)
	}
	return &number{x.table, shorter, x.denominator.by(common)}
}

// coefficient returns a coefficient in lowest terms.
func (x *number) coefficient(i int) (numerator, denominator whole) {
	common := x.denominator.gcd(x.coefficients[i])
	return x.coefficients[i].by(common), x.denominator.by(common)
}

// fit returns x, and throws tooLarge if a coefficient is too large.
func (x *number) fit() *number {
	short := x.denominator.fits(api.MaxDigits)
	for i, c := range x.coefficients {
		if short && c.fits(api.MaxDigits) {
			continue
		}
		above, below := x.coefficient(i)
		if !above.fits(api.MaxDigits) || !below.fits(api.MaxDigits) {
			panic(tooLarge{})
		}
	}
	return x
}

// rational reports whether all coefficients but the first one are 0.
func (x *number) rational() bool {
	return widest(x.coefficients[1:]) == 0
}

func (x *number) zero() bool {
	return widest(x.coefficients) == 0
}

// plus returns x + y, not in lowest terms.
func (x *number) plus(y *number) *number {
	common := x.denominator.gcd(y.denominator)
	return x.mix(y.denominator.by(common), y, x.denominator.by(common))
}

// minus returns x - y, not in lowest terms.
func (x *number) minus(y *number) *number {
	common := x.denominator.gcd(y.denominator)
	return x.mix(y.denominator.by(common), y, x.denominator.by(common).neg())
}

// mix returns the sum of x and y, of which the coefficients are multiplied by a and by b; a is the part of
// the denominator of y that is not one of that of x.
func (x *number) mix(a whole, y *number, b whole) *number {
	products := max(widest(x.coefficients)+len(a.limbs), widest(y.coefficients)+len(b.limbs))
	s := newSums(x.degree, products)
	for i := range x.degree {
		s.add(i, x.coefficients[i], a)
		s.add(i, y.coefficients[i], b)
	}
	return &number{x.table, s.ends(x.degree), x.denominator.mul(a)}
}

// times returns x times y, not in lowest terms.
func (x *number) times(y *number) *number {
	return &number{x.table, x.product(x.coefficients, y.coefficients), x.denominator.mul(y.denominator)}
}

// spans yields bounds of x times its denominator, times 2^shift, nearer ones again and again; x is not rational.
func (x *number) spans(yield func(shift int, bounds span) bool) {
	for shift, powers := range x.closer {
		s := newSums(2, widest(x.coefficients)+len(powers[x.degree-1].high.limbs))
		for i, c := range x.coefficients {
			low, high := powers[i].low, powers[i].high
			if c.minus {
				low, high = high, low
			}
			s.add(0, c, low)
			s.add(1, c, high)
		}
		if !yield(shift, span{s.end(0), s.end(1)}) {
			return
		}
	}
}

// sign returns the sign of x. A number that is not rational is not 0, so that some bounds leave 0 out.
func (x *number) sign() int {
	if x.rational() {
		return x.coefficients[0].sign()
	}
	for _, bounds := range x.spans {
		if bounds.low.sign() == bounds.high.sign() {
			return bounds.low.sign()
		}
	}
	return 0
}

// floor returns the greatest whole number that is at most x. A number that is not rational is not whole either.
func (x *number) floor() whole {
	if x.rational() {
		least, _ := x.coefficients[0].div(x.denominator)
		return least
	}
	for shift, bounds := range x.spans {
		unit := x.denominator.up(shift)
		low, _ := bounds.low.div(unit)
		high, _ := bounds.high.div(unit)
		if low.cmp(high) == 0 {
			return low
		}
	}
	return whole{}
}
