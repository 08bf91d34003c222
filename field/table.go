package field

// table is what the arithmetic of a level needs to know. It is never changed.
type table struct {
	level, degree int
	minimal       []int64   // the coefficients of the polynomial of the degree, with the first one 1, that is 0 at L
	lows          [][]whole // the powers of L from the degree on, as far as products need them, by lower ones
	near          []span    // bounds of the powers of L below the degree, times 2^firstBits; none for the degree 1
}

// newTable returns the table of an allowed level.
func newTable(level int) *table {
	t := &table{level: level, degree: degree(level), minimal: minimal(level)}
	var rows [][]whole
	for row := range t.powers {
		rows = append(rows, wholes(row))
		if len(rows) == 2*t.degree-1 {
			break
		}
	}
	t.lows = rows[t.degree:]
	if t.degree > 1 {
		t.near = nearPowers(t.nearRoot(natural(2).up(firstBits), firstBits), t.degree, firstBits)
	}
	return t
}

// degree returns the degree of the field of a level.
func degree(level int) int {
	count := 0
	for k := range 2 * level {
		if gcdLimb(uint64(k), uint64(2*level)) == 1 {
			count++
		}
	}
	return max(count/2, 1)
}

// minimal returns the polynomial of L, from its constant coefficient on.
// With z + 1/z for its variable, and times z to the power of the degree, it is the cyclotomic polynomial of 2 level.
func minimal(level int) []int64 {
	if level == 1 {
		return []int64{2, 1}
	}
	d := degree(level)
	halves := halfCyclotomic(2*level, d)
	sum := make([]int64, d+1)
	sum[0] = halves[d]
	// z^k + 1/z^k, by z + 1/z.
	last, now := make([]int64, d+1), make([]int64, d+1)
	last[0], now[1] = 2, 1
	for k := 1; k <= d; k++ {
		for i, c := range now {
			sum[i] += halves[d-k] * c
		}
		next := make([]int64, d+1)
		copy(next[1:], now)
		for i, c := range last {
			next[i] -= c
		}
		last, now = now, next
	}
	return sum
}

// halfCyclotomic returns the coefficients 0 to d of the cyclotomic polynomial of n, at least 2: it is the product of
// all 1 - z^(n / e), for e that divide n, to the power of 1 or -1, as e is a product of evenly or oddly many different primes.
func halfCyclotomic(n, d int) []int64 {
	series := make([]int64, d+1)
	series[0] = 1
	for e := 1; e <= n; e++ {
		if n%e != 0 {
			continue
		}
		step := n / e
		switch moebius(e) {
		case 1:
			for i := d; i >= step; i-- {
				series[i] -= series[i-step]
			}
		case -1:
			for i := step; i <= d; i++ {
				series[i] += series[i-step]
			}
		}
	}
	return series
}

// moebius returns 1 or -1 if n is a product of evenly or oddly many different primes, otherwise 0.
func moebius(n int) int {
	sign := 1
	for p := 2; n > 1; p++ {
		if n%p == 0 {
			n /= p
			sign = -sign
			if n%p == 0 {
				return 0
			}
		}
	}
	return sign
}

// timesL returns L times a number with whole coefficients.
func (t *table) timesL(row []int64) []int64 {
	top := row[t.degree-1]
	next := make([]int64, t.degree)
	copy(next[1:], row)
	for i := range next {
		next[i] -= top * t.minimal[i]
	}
	return next
}

// powers yields the powers of L, from L^0 on.
func (t *table) powers(yield func(row []int64) bool) {
	row := make([]int64, t.degree)
	row[0] = 1
	for yield(row) {
		row = t.timesL(row)
	}
}

// cosines yields 2 cos (k pi / level), for k from 0 on: L times each of them is the next one and the last one.
func (t *table) cosines(yield func(row []int64) bool) {
	one, now := make([]int64, t.degree), make([]int64, t.degree)
	one[0], now[0] = 1, 2
	// Ahead of k = 0 stands k = -1, which has the cosine of k = 1.
	last := t.timesL(one)
	for yield(now) {
		next := t.timesL(now)
		for i, c := range last {
			next[i] -= c
		}
		last, now = now, next
	}
}

// cosine returns 2 cos (k pi / level).
func (t *table) cosine(k int) []int64 {
	round := 2 * t.level
	k %= round
	// The cosine is the same for k and -k, and for k and k + round.
	k = max(k, -k)
	k = min(k, round-k)
	for row := range t.cosines {
		if k == 0 {
			return row
		}
		k--
	}
	return nil
}

// product returns x times y, both by their coefficients.
func (t *table) product(x, y []whole) []whole {
	d := t.degree
	s := newSums(2*d-1, widest(x)+widest(y))
	for i, a := range x {
		for j, b := range y {
			s.add(i+j, a, b)
		}
	}
	for k, low := range t.lows {
		c := s.end(d + k)
		for j, b := range low {
			s.add(j, c, b)
		}
	}
	return s.ends(d)
}

// wholes returns whole numbers as those of any size.
func wholes(row []int64) []whole {
	list := make([]whole, len(row))
	for i, c := range row {
		list[i] = small(c)
	}
	return list
}
