package field

import "math/bits"

// A row of limbs is a whole number that is not negative: least limbs first, the last one not 0.

// limb is a digit of a whole number.
type limb interface{ ~uint32 | ~uint64 }

// addLimbs returns x + y.
func addLimbs[L limb](x, y []L) []L {
	if len(x) < len(y) {
		x, y = y, x
	}
	sum := make([]L, len(x), len(x)+1)
	var carry L
	for i, a := range x {
		if i < len(y) {
			a += y[i]
		}
		// At most one of the two additions of a place wraps around.
		wrapped := i < len(y) && a < y[i]
		a += carry
		if wrapped || a < carry {
			carry = 1
		} else {
			carry = 0
		}
		sum[i] = a
	}
	if carry != 0 {
		sum = append(sum, carry)
	}
	return sum
}

// subLimbs returns x - y, for x at least y.
func subLimbs(x, y []uint64) []uint64 {
	rest := make([]uint64, len(x))
	var borrow uint64
	for i, a := range x {
		var b uint64
		if i < len(y) {
			b = y[i]
		}
		rest[i], borrow = bits.Sub64(a, b, borrow)
	}
	return trim(rest)
}

// mulLimbs returns x times y.
func mulLimbs(x, y []uint64) []uint64 {
	product := make([]uint64, len(x)+len(y))
	addProduct(product, x, y)
	return trim(product)
}

// addProduct adds x times y to the sum; what does not fit into the sum is lost.
func addProduct(sum, x, y []uint64) {
	for i, a := range x {
		var carry, c uint64
		for j, b := range y {
			high, low := bits.Mul64(a, b)
			low, c = bits.Add64(low, carry, 0)
			high += c
			sum[i+j], c = bits.Add64(sum[i+j], low, 0)
			carry = high + c
		}
		for k := i + len(y); carry != 0 && k < len(sum); k++ {
			sum[k], carry = bits.Add64(sum[k], carry, 0)
		}
	}
}

// subProduct subtracts x times y from the sum, which wraps around below 0.
func subProduct(sum, x, y []uint64) {
	for i, a := range x {
		var carry, c uint64
		for j, b := range y {
			high, low := bits.Mul64(a, b)
			low, c = bits.Add64(low, carry, 0)
			high += c
			sum[i+j], c = bits.Sub64(sum[i+j], low, 0)
			carry = high + c
		}
		for k := i + len(y); carry != 0 && k < len(sum); k++ {
			sum[k], carry = bits.Sub64(sum[k], carry, 0)
		}
	}
}

// cmpLimbs returns the sign of x - y.
func cmpLimbs(x, y []uint64) int {
	if len(x) != len(y) {
		return signOf(len(x) > len(y))
	}
	for i := len(x) - 1; i >= 0; i-- {
		if x[i] != y[i] {
			return signOf(x[i] > y[i])
		}
	}
	return 0
}

// signOf is the sign of a difference that is not 0.
func signOf(greater bool) int {
	if greater {
		return 1
	}
	return -1
}

// trim leaves out the zeros at the end.
func trim(x []uint64) []uint64 {
	n := len(x)
	for n > 0 && x[n-1] == 0 {
		n--
	}
	return x[:n]
}

// bitLimbs returns how many binary digits x has.
func bitLimbs(x []uint64) int {
	if len(x) == 0 {
		return 0
	}
	return 64*len(x) - bits.LeadingZeros64(x[len(x)-1])
}

// upLimbs returns x times 2^n.
func upLimbs(x []uint64, n int) []uint64 {
	skip, by := n/64, uint(n%64)
	moved := make([]uint64, skip+len(x)+1)
	for i, a := range x {
		// A shift by 64 gives 0 in Go, so that by = 0 is no special case.
		moved[skip+i] |= a << by
		moved[skip+i+1] = a >> (64 - by)
	}
	return trim(moved)
}

// downLimbs returns the whole part of x by 2^n.
func downLimbs(x []uint64, n int) []uint64 {
	skip, by := n/64, uint(n%64)
	if skip >= len(x) {
		return nil
	}
	moved := make([]uint64, len(x)-skip)
	for i := range moved {
		moved[i] = x[skip+i] >> by
		if skip+i+1 < len(x) {
			moved[i] |= x[skip+i+1] << (64 - by)
		}
	}
	return trim(moved)
}

// divLimb returns the whole part of x by y, and the rest.
func divLimb(x []uint64, y uint64) ([]uint64, uint64) {
	quotient := make([]uint64, len(x))
	var rest uint64
	for i := len(x) - 1; i >= 0; i-- {
		quotient[i], rest = bits.Div64(rest, x[i], y)
	}
	return trim(quotient), rest
}

// divLimbs returns the whole part of x by y, which is not 0, and the rest.
func divLimbs(x, y []uint64) (quotient, rest []uint64) {
	if cmpLimbs(x, y) < 0 {
		return nil, x
	}
	if len(y) == 1 {
		quotient, small := divLimb(x, y[0])
		return quotient, trim([]uint64{small})
	}
	// The digits of the quotient are guessed from the first limbs; the guess is near if y begins with a binary 1.
	n, by := len(y), bits.LeadingZeros64(y[len(y)-1])
	y = upLimbs(y, by)
	left := make([]uint64, len(x)+1)
	copy(left, upLimbs(x, by))
	quotient = make([]uint64, len(x)-n+1)
	for at := len(quotient) - 1; at >= 0; at-- {
		quotient[at] = takeAway(left[at:at+n+1], y)
	}
	return trim(quotient), downLimbs(trim(left), by)
}

// takeAway takes y away from what is left as often as it can, less than 2^64 times, and returns how often.
func takeAway(left, y []uint64) uint64 {
	n := len(y)
	times := guess(left[n], left[n-1], left[n-2], y[n-1], y[n-2])
	subProduct(left, []uint64{times}, y)
	// A guess is too great by 1 at most, and has then wrapped around below 0.
	if left[n] != 0 {
		times--
		addProduct(left, []uint64{1}, y)
	}
	return times
}

// guess returns the quotient of the numbers with the limbs a2 a1 a0 and b1 b0, but at most 2^64 - 1.
// The first binary digit of b1 is 1, and a2 a1 is at most b1 b0.
func guess(a2, a1, a0, b1, b0 uint64) uint64 {
	if a2 >= b1 {
		return 1<<64 - 1
	}
	times, rest := bits.Div64(a2, a1, b1)
	for {
		high, low := bits.Mul64(times, b0)
		if high < rest || high == rest && low <= a0 {
			return times
		}
		times--
		rest += b1
		if rest < b1 {
			return times
		}
	}
}
