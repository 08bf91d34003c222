package field

// sums are some sums of products under way. All of them stand in one row of limbs, each in as many of them,
// in two's complement: so a number of a field needs few pieces of memory, and its sums no new ones.
type sums struct {
	width int
	limbs []uint64
}

// newSums returns sums that are 0, and wide enough for products of numbers of so many limbs together.
func newSums(count, productLimbs int) sums {
	// One limb more holds the sign, and the sum of many products; another one sums of sums by a small number.
	width := productLimbs + 2
	return sums{width, make([]uint64, count*width)}
}

func (s sums) at(i int) []uint64 {
	return s.limbs[i*s.width : (i+1)*s.width]
}

// add adds x times y to the sum i.
func (s sums) add(i int, x, y whole) {
	if x.minus == y.minus {
		addProduct(s.at(i), x.limbs, y.limbs)
	} else {
		subProduct(s.at(i), x.limbs, y.limbs)
	}
}

// end returns the sum i, to which nothing is added from now on: it takes over its limbs.
func (s sums) end(i int) whole {
	limbs := s.at(i)
	minus := limbs[s.width-1]>>63 == 1
	if minus {
		negate(limbs)
	}
	limbs = trim(limbs)
	return signed(minus, limbs[:len(limbs):len(limbs)])
}

// ends returns the first sums.
func (s sums) ends(count int) []whole {
	list := make([]whole, count)
	for i := range list {
		list[i] = s.end(i)
	}
	return list
}

// negate changes the sign of limbs in two's complement.
func negate(limbs []uint64) {
	carry := true
	for i := range limbs {
		limbs[i] = ^limbs[i]
		if carry {
			limbs[i]++
			carry = limbs[i] == 0
		}
	}
}

// widest returns the greatest number of limbs of a number of a list.
func widest(list []whole) int {
	most := 0
	for _, x := range list {
		most = max(most, len(x.limbs))
	}
	return most
}
