package field

import (
	"math/bits"
	"strconv"
	"strings"
)

// whole is a whole number of any size. It is never changed, so that numbers may share their limbs.
type whole struct {
	minus bool
	limbs []uint64
}

// small returns a whole number.
func small(n int64) whole {
	if n < 0 {
		return whole{true, []uint64{-uint64(n)}}
	}
	return natural(uint64(n))
}

// natural returns a whole number that is not negative.
func natural(n uint64) whole {
	return whole{false, trim([]uint64{n})}
}

// signed returns the whole number of some limbs; 0 has no sign.
func signed(minus bool, limbs []uint64) whole {
	return whole{minus && len(limbs) > 0, limbs}
}

// power returns 10 to the power of n.
func power(n int) whole {
	result, square := natural(1), natural(10)
	for ; n > 0; n /= 2 {
		if n%2 == 1 {
			result = result.mul(square)
		}
		square = square.mul(square)
	}
	return result
}

func (x whole) zero() bool {
	return len(x.limbs) == 0
}

func (x whole) one() bool {
	return !x.minus && len(x.limbs) == 1 && x.limbs[0] == 1
}

func (x whole) sign() int {
	if x.zero() {
		return 0
	}
	return signOf(!x.minus)
}

func (x whole) neg() whole {
	return signed(!x.minus, x.limbs)
}

func (x whole) abs() whole {
	return whole{false, x.limbs}
}

// bits returns how many binary digits x has, without its sign.
func (x whole) bits() int {
	return bitLimbs(x.limbs)
}

func (x whole) add(y whole) whole {
	if x.minus == y.minus {
		return whole{x.minus, addLimbs(x.limbs, y.limbs)}
	}
	if cmpLimbs(x.limbs, y.limbs) < 0 {
		x, y = y, x
	}
	return signed(x.minus, subLimbs(x.limbs, y.limbs))
}

func (x whole) sub(y whole) whole {
	return x.add(y.neg())
}

func (x whole) mul(y whole) whole {
	return signed(x.minus != y.minus, mulLimbs(x.limbs, y.limbs))
}

func (x whole) cmp(y whole) int {
	if x.minus != y.minus {
		return signOf(y.minus)
	}
	if x.minus {
		return cmpLimbs(y.limbs, x.limbs)
	}
	return cmpLimbs(x.limbs, y.limbs)
}

// up returns x times 2^n.
func (x whole) up(n int) whole {
	return whole{x.minus, upLimbs(x.limbs, n)}
}

// down returns the greatest whole number that is at most x by 2^n.
func (x whole) down(n int) whole {
	cut := downLimbs(x.limbs, n)
	if x.minus && cmpLimbs(upLimbs(cut, n), x.limbs) != 0 {
		cut = addLimbs(cut, []uint64{1})
	}
	return signed(x.minus, cut)
}

// div returns the greatest whole number that is at most x by y, which is positive, and the rest, from 0 to y - 1.
func (x whole) div(y whole) (quotient, rest whole) {
	q, r := divLimbs(x.limbs, y.limbs)
	if !x.minus || len(r) == 0 {
		return signed(x.minus, q), signed(false, r)
	}
	return signed(true, addLimbs(q, []uint64{1})), signed(false, subLimbs(y.limbs, r))
}

// mod returns the rest of x by y, which is positive.
func (x whole) mod(y whole) whole {
	_, rest := x.div(y)
	return rest
}

// by returns x by y, which is positive and divides x.
func (x whole) by(y whole) whole {
	if y.one() {
		return x
	}
	quotient, _ := x.div(y)
	return quotient
}

// int64 returns x, and whether it is an int64.
func (x whole) int64() (int64, bool) {
	switch {
	case x.zero():
		return 0, true
	case len(x.limbs) > 1:
		return 0, false
	case x.minus && x.limbs[0] <= 1<<63:
		return int64(-x.limbs[0]), true
	case !x.minus && x.limbs[0] < 1<<63:
		return int64(x.limbs[0]), true
	}
	return 0, false
}

const (
	chunkDigits = 19 // decimal digits that a limb holds
	chunk       = 10_000_000_000_000_000_000
)

// text returns the decimal digits, with "-" ahead of negative numbers.
func (x whole) text() string {
	if x.zero() {
		return "0"
	}
	var parts []string
	for left := x.limbs; len(left) > 0; {
		var digits uint64
		left, digits = divLimb(left, chunk)
		part := strconv.FormatUint(digits, 10)
		if len(left) > 0 {
			part = strings.Repeat("0", chunkDigits-len(part)) + part
		}
		parts = append(parts, part)
	}
	var out strings.Builder
	if x.minus {
		out.WriteString("-")
	}
	for i := len(parts) - 1; i >= 0; i-- {
		out.WriteString(parts[i])
	}
	return out.String()
}

// readNatural returns the number of a text of decimal digits without zeros ahead, and whether it is one.
func readNatural(text string) (whole, bool) {
	if text == "" || text[0] == '0' && text != "0" {
		return whole{}, false
	}
	limbs := make([]uint64, 0, len(text)/chunkDigits+1)
	for i := range len(text) {
		if text[i] < '0' || text[i] > '9' {
			return whole{}, false
		}
		limbs = appendDigit(limbs, uint64(text[i]-'0'))
	}
	return whole{false, limbs}, true
}

// appendDigit returns ten times the limbs, and a digit; it overwrites the limbs.
func appendDigit(limbs []uint64, digit uint64) []uint64 {
	for i, a := range limbs {
		high, low := bits.Mul64(a, 10)
		low, carry := bits.Add64(low, digit, 0)
		limbs[i] = low
		digit = high + carry
	}
	if digit != 0 {
		limbs = append(limbs, digit)
	}
	return limbs
}

// fits reports whether x has at most so many decimal digits.
func (x whole) fits(digits int) bool {
	// 10 lies between 2^3 and 2^4, so that most numbers need no power of 10.
	if x.bits() <= 3*digits || x.bits() > 4*digits {
		return x.bits() <= 3*digits
	}
	return x.abs().cmp(power(digits)) < 0
}
