package words

import "horocycle/api"

// Letters in turns, one more of them than an order can be.
const (
	turns01 = "\x00\x01\x00\x01\x00\x01\x00\x01\x00\x01\x00\x01\x00"
	turns02 = "\x00\x02\x00\x02\x00\x02\x00\x02\x00\x02\x00\x02\x00"
	turns12 = "\x01\x02\x01\x02\x01\x02\x01\x02\x01\x02\x01\x02\x01"
)

// orders are the orders of a triangle, with the rows of letters that steps put in place of each other.
type orders struct {
	api.Orders
	rows [3][3]string // rows[i][j] is i j i j .. of Mij letters; empty if Mij is 0, and for i = j
}

// newOrders returns allowed orders, or throws their error.
func newOrders(o api.Orders) *orders {
	if err := fault(o); err != api.OK {
		panic(err)
	}
	return &orders{o, [3][3]string{
		{"", turns01[:o.M01], turns02[:o.M02]},
		{turns01[1 : 1+o.M01], "", turns12[:o.M12]},
		{turns02[1 : 1+o.M02], turns12[1 : 1+o.M12], ""},
	}}
}

// fault returns the error of orders.
func fault(o api.Orders) api.Errno {
	corners := [3]int{o.M01, o.M12, o.M02}
	level := 1 // the least common multiple of those that are not ideal
	for _, m := range corners {
		if m < 0 || m == 1 || m > api.MaxOrder {
			return api.ErrArg
		}
		if m != 0 {
			level = multiple(level, m)
		}
	}
	angles := 0 // all of them, as a multiple of pi by the level
	for _, m := range corners {
		if m != 0 {
			angles += level / m
		}
	}
	if angles >= level {
		return api.ErrArg
	}
	if level > api.MaxLevel {
		return api.ErrFull
	}
	return api.OK
}

// multiple returns the least common multiple of positive numbers.
func multiple(a, b int) int {
	common := a
	for common%b != 0 {
		common += a
	}
	return common
}

// most returns the greatest order that a motion can have: that of a mirror, or of a turn about a corner (P3.5).
func (o *orders) most() int {
	return max(2, o.M01, o.M12, o.M02)
}

// bring makes a letter the first one of a shortest word, by steps that keep the number of letters, and reports whether there are such steps.
// If there are none, other steps may have been made: the word leads to the same tile all the same.
func (o *orders) bring(letter byte, word []byte) bool {
	if len(word) == 0 {
		return false
	}
	first := word[0]
	if first == letter {
		return true
	}
	// Shortest words to a tile that begin with two different letters are there just if one begins with the whole row of them.
	row := o.rows[first][letter]
	if row == "" {
		return false
	}
	for at := range len(row) {
		if !o.bring(row[at], word[at:]) {
			return false
		}
	}
	copy(word, o.rows[letter][first])
	return true
}
