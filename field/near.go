package field

// firstBits is how many bits behind the point the first bounds of a number have. It is enough for most numbers.
const firstBits = 128

// span is what is known of a real number: it is at least low, and at most high.
type span struct {
	low, high whole
}

// closer yields bounds of the powers of L below the degree, times 2^shift, nearer ones again and again.
func (t *table) closer(yield func(shift int, powers []span) bool) {
	powers := t.near
	for shift := firstBits; yield(shift, powers); {
		above := powers[1].high.up(shift)
		shift *= 2
		powers = nearPowers(t.nearRoot(above, shift), t.degree, shift)
	}
}

// nearRoot returns bounds of L times 2^shift; the degree is at least 2.
//
// L is the greatest zero of its polynomial p, all of whose zeros are real. So for x above L Newton's step leads from x
// to a number that is not below L; and p'(x) / p(x), the sum of all 1 / (x - zero), is at most the degree by x - L.
func (t *table) nearRoot(above whole, shift int) span {
	slopes := make([]int64, t.degree)
	for i := range slopes {
		slopes[i] = int64(i+1) * t.minimal[i+1]
	}
	for {
		value, slope := evaluate(t.minimal, above, shift), evaluate(slopes, above, shift)
		step, _ := value.low.up(shift).div(slope.high)
		// A step that is as short as what is lost by rounding is the last one.
		if step.sign() <= 0 || step.bits() <= t.degree {
			off, _ := value.high.mul(small(int64(t.degree))).up(shift).div(slope.low)
			return span{above.sub(off).sub(natural(1)), above}
		}
		above = above.sub(step)
	}
}

// evaluate returns bounds of the value of a polynomial at x by 2^shift, times 2^shift; x by 2^shift is from 0 to 2.
func evaluate(polynomial []int64, x whole, shift int) span {
	var low whole
	for i := len(polynomial) - 1; i >= 0; i-- {
		low = low.mul(x).down(shift).add(small(polynomial[i]).up(shift))
	}
	// What is lost by rounding down is less than 1 each time, and then doubled at most.
	return span{low, low.add(natural(1).up(len(polynomial)))}
}

// nearPowers returns bounds of the first powers of a positive number that are not rounded, times 2^shift.
func nearPowers(root span, count, shift int) []span {
	unit := natural(1).up(shift)
	powers := []span{{unit, unit}}
	for len(powers) < count {
		last := powers[len(powers)-1]
		low := last.low.mul(root.low).down(shift)
		high := last.high.mul(root.high).down(shift).add(natural(1))
		powers = append(powers, span{low, high})
	}
	return powers
}
