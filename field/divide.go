package field

import "horocycle/api"

// quotient returns x by y, which is not 0; not in lowest terms.
//
// To divide by a number that is not rational would make numbers many times as long on the way as the result may be.
// So the quotient is found modulo a prime, then modulo greater and greater powers of it, until its coefficients,
// which have not too many digits, are the only fractions as short that are the same modulo the power.
func (x *number) quotient(y *number) *number {
	top, bottom := scale(x.coefficients, y.denominator), scale(y.coefficients, x.denominator)
	if y.rational() {
		if bottom[0].minus {
			top = scale(top, small(-1))
		}
		return &number{x.table, top, bottom[0].abs()}
	}
	modulus, inverse := x.invert(bottom)
	for modulus.bits() <= 2*maxBits+spareBits {
		modulus = modulus.mul(modulus)
		inverse = x.refine(bottom, inverse, modulus)
		guess := mod(x.product(mod(top, modulus), inverse), modulus)
		if z := x.fractions(guess, modulus); z != nil && x.isQuotient(z, top, bottom) {
			return z
		}
	}
	panic(tooLarge{})
}

const (
	maxBits   = 4 * api.MaxDigits // more binary digits than a coefficient may have: 10 is less than 2^4
	spareBits = 64                // so many binary digits more make it unlikely that a fraction is short by chance
)

// isQuotient reports whether z is top by bottom.
func (t *table) isQuotient(z *number, top, bottom []whole) bool {
	product, wanted := t.product(bottom, z.coefficients), scale(top, z.denominator)
	for i, c := range product {
		if c.cmp(wanted[i]) != 0 {
			return false
		}
	}
	return true
}

// invert returns a prime modulo which x, not 0, has an inverse, and this inverse.
// Modulo a prime p that is 1 modulo twice the level the polynomial of L has all its zeros among the whole numbers:
// so the power p - 1 of all that has an inverse is 1. Only finitely many primes leave x without one.
func (t *table) invert(x []whole) (prime whole, inverse []whole) {
	for p := range t.primes {
		prime = natural(p)
		rest := mod(x, prime)
		inverse = t.powerMod(rest, p-2, prime)
		if t.isOne(mod(t.product(rest, inverse), prime)) {
			break
		}
	}
	return prime, inverse
}

// primes yields the primes above 2^16 that are 1 modulo twice the level.
func (t *table) primes(yield func(p uint64) bool) {
	step := uint64(2 * t.level)
	for p := 1<<16/step*step + step + 1; ; p += step {
		if isPrime(p) && !yield(p) {
			return
		}
	}
}

func isPrime(n uint64) bool {
	for d := uint64(2); d*d <= n; d++ {
		if n%d == 0 {
			return false
		}
	}
	return true
}

// powerMod returns x to the power of n, n at least 1, modulo a number.
func (t *table) powerMod(x []whole, n uint64, modulus whole) []whole {
	result := make([]whole, t.degree)
	result[0] = natural(1)
	for ; n > 0; n /= 2 {
		if n%2 == 1 {
			result = mod(t.product(result, x), modulus)
		}
		x = mod(t.product(x, x), modulus)
	}
	return result
}

func (t *table) isOne(x []whole) bool {
	return x[0].one() && widest(x[1:]) == 0
}

// refine returns the inverse of x modulo a number; inverse is it modulo the square root of this number.
// If x times inverse is 1 + e, then x times inverse times 1 - e is 1 - e times e.
func (t *table) refine(x, inverse []whole, modulus whole) []whole {
	twice := scale(mod(t.product(mod(x, modulus), inverse), modulus), small(-1))
	twice[0] = twice[0].add(natural(2))
	return mod(t.product(inverse, twice), modulus)
}

// fractions returns the number whose coefficients are short fractions, and modulo a number those of a row; nil if there is none.
func (t *table) fractions(row []whole, modulus whole) *number {
	limit := min(maxBits, max(modulus.bits()-spareBits, 0)/2)
	above, below := make([]whole, len(row)), make([]whole, len(row))
	denominator := natural(1)
	for i, c := range row {
		// Mostly all coefficients have one denominator, and this is quick.
		above[i], below[i] = nearest(c.mul(denominator).mod(modulus), modulus), denominator
		if above[i].bits() <= limit {
			continue
		}
		var ok bool
		if above[i], below[i], ok = fraction(c, modulus, limit); !ok {
			return nil
		}
		denominator = below[i]
	}
	return t.ofFractions(above, below)
}

// nearest returns c, which is from 0 to modulus - 1, or c - modulus, whichever is shorter.
func nearest(c, modulus whole) whole {
	if below := c.sub(modulus); below.bits() < c.bits() {
		return below
	}
	return c
}

// fraction returns the fraction of at most so many binary digits, above and below, that is c modulo a number, if there is one.
func fraction(c, modulus whole, limit int) (above, below whole, ok bool) {
	// Each rest on the way to the greatest common divisor of both is its factor times c, modulo the number.
	last, rest := modulus, c
	lastFactor, factor := whole{}, natural(1)
	for rest.bits() > limit {
		times, next := last.div(rest)
		last, rest = rest, next
		lastFactor, factor = factor, lastFactor.sub(times.mul(factor))
	}
	if factor.minus {
		rest, factor = rest.neg(), factor.neg()
	}
	return rest, factor, factor.bits() <= limit
}

// scale returns the products of the numbers of a list with a number.
func scale(list []whole, by whole) []whole {
	scaled := make([]whole, len(list))
	for i, x := range list {
		scaled[i] = x.mul(by)
	}
	return scaled
}

// mod returns the rests of the numbers of a list by a positive number.
func mod(list []whole, modulus whole) []whole {
	rests := make([]whole, len(list))
	for i, x := range list {
		rests[i] = x.mod(modulus)
	}
	return rests
}
