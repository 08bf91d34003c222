package tiles_test

import (
	"math"
	"slices"
	"strings"
	"testing"

	"horocycle/api"
	"horocycle/tiles"
)

// P4.1, P4.4: rings.
func TestRing(t *testing.T) {
	for _, c := range []struct {
		o    api.Orders
		n    int
		want string
	}{
		{usual(), 0, "e"}, {usual(), 1, "0 1 2"}, {usual(), 2, "01 02 10 12 21"}, {usual(), 3, "010 012 021 102 121 210 212"},
		{api.Orders{}, 0, "e"}, {api.Orders{}, 2, "01 02 10 12 20 21"}, {api.Orders{M12: 2}, 2, "01 02 10 12 20"},
		{api.Orders{M01: 4, M12: 4, M02: 4}, 2, "01 02 10 12 20 21"}, {api.Orders{M01: 3}, 3, "010 012 020 021 102 120 121 201 202 210 212"},
	} {
		if got := ring(t, c.o, c.n); !slices.Equal(got, all(c.want)) {
			t.Errorf("%v: the ring %d is %s, want %s", c.o, c.n, digits(got...), c.want)
		}
	}
}

// P4.4: how many tiles a ring has.
func TestCount(t *testing.T) {
	great := api.Orders{M01: 12, M12: 12, M02: 12}
	for _, c := range []struct {
		o    api.Orders
		n    int
		want uint64
	}{
		{api.Orders{}, 0, 1}, {api.Orders{}, 1, 3}, {api.Orders{}, 3, 12}, {api.Orders{}, 63, 3 << 62 & math.MaxUint64}, {api.Orders{}, 64, 1 << 63}, {api.Orders{}, 65, 0}, {api.Orders{}, 1000, 0},
		{usual(), 0, 1}, {usual(), 1, 3}, {usual(), 2, 5}, {usual(), 3, 7}, {api.Orders{M12: 2}, 2, 5},
		{api.Orders{M01: 2}, 2, 5}, {api.Orders{M01: 2}, 3, 8}, {api.Orders{M01: 2}, 4, 13}, {api.Orders{M01: 2}, 14, 1597}, // Fibonacci's numbers
		{great, 11, 3 << 10}, {great, 12, 3<<11 - 3},
	} {
		if got := count(t, c.o, c.n); got != c.want {
			t.Errorf("%v: the ring %d has %d tiles, want %d", c.o, c.n, got, c.want)
		}
	}
}

// P4.2, P4.4: the series in lowest terms.
func TestSeries(t *testing.T) {
	for _, c := range []struct {
		o        api.Orders
		num, den []int
	}{
		{api.Orders{}, []int{1, 1}, []int{1, -2}},
		{api.Orders{M01: 2}, []int{1, 2, 1}, []int{1, -1, -1}},
		{api.Orders{M12: 3}, []int{1, 2, 2, 1}, []int{1, -1, -1, -1}},
		{api.Orders{M01: 2, M12: 3}, []int{1, 3, 4, 3, 1}, []int{1, 0, -1, -1}}, // turned around, the denominator has the factor t
		{api.Orders{M12: 2, M02: 3}, []int{1, 3, 4, 3, 1}, []int{1, 0, -1, -1}},
		{api.Orders{M01: 4, M12: 4, M02: 4}, []int{1, 2, 2, 2, 1}, []int{1, -1, -1, -1, 1}},
		{usual(), []int{1, 4, 8, 11, 12, 12, 12, 11, 8, 4, 1}, []int{1, 1, 0, -1, -1, -1, -1, -1, 0, 1, 1}}, // Lehmer's polynomial
	} {
		num, den := series(t, c.o)
		if !slices.Equal(num, c.num) || !slices.Equal(den, c.den) {
			t.Errorf("%v: the series is %v by %v, want %v by %v", c.o, num, den, c.num, c.den)
		}
	}
}

// P4.4: how many mirrors lie between tiles.
func TestFar(t *testing.T) {
	long := strings.Repeat(word("012"), 20)
	for _, c := range []struct {
		o    api.Orders
		u, v string
		want int
	}{
		{usual(), "", "", 0}, {usual(), word("0"), word("1"), 2}, {usual(), word("0"), word("0"), 0}, {usual(), word("02"), word("20"), 0}, {usual(), "", word("0102"), 4},
		{usual(), word("012"), word("01"), 1}, {usual(), word("0"), word("101"), 2}, {usual(), word("0110"), "", 0}, {usual(), word("12"), word("21"), 4}, {usual(), word("02"), word("01"), 2},
		{api.Orders{}, word("02"), word("20"), 4}, {api.Orders{}, long, "", 60}, {api.Orders{}, "", long, 60}, {api.Orders{}, long, word("2") + long[1:], 120}, {api.Orders{}, long, long, 0},
	} {
		if got := far(t, c.o, c.u, c.v); got != c.want {
			t.Errorf("%v: %s and %s are %d apart, want %d", c.o, digits(c.u), digits(c.v), got, c.want)
		}
	}
}

// P4.3, P4.4: the tiles around a corner, from the first one on.
func TestAround(t *testing.T) {
	mixed := api.Orders{M01: 2, M12: 6, M02: 4}
	for _, c := range []struct {
		o      api.Orders
		tile   string
		mirror int
		want   string
	}{
		{usual(), "", 2, "e 0 01 010 10 1"}, {usual(), "", 1, "e 0 02 2"}, {usual(), "", 0, "e 1 12 121 1212 12121 121212 1212121 212121 21212 2121 212 21 2"},
		{usual(), "210", 2, "2 02 021 0210 210 21"}, {usual(), "2010", 2, "2 02 021 0210 210 21"}, {usual(), "20", 2, "2 02 021 0210 210 21"}, {usual(), "1", 2, "e 0 01 010 10 1"},
		{usual(), "0120", 1, "01 010 0102 012"}, {usual(), "0120", 0, "10 010 0102 01021 010212 0102121 01021212 010212121 10212121 1021212 102121 10212 1021 102"},
		{mixed, "0120", 1, "1 01 012 0120 01202 1202 120 12"}, {mixed, "0120", 2, "012 0120 01201 0121"},
		{api.Orders{M01: 2}, "", 2, "e 0 01 1"}, {api.Orders{M12: 3}, "0120", 0, "0120 01201 012012 0120121 012021 01202"}, {api.Orders{M02: 2}, "202", 1, "e 0 02 2"},
	} {
		got := around(t, c.o, word(c.tile), c.mirror)
		if !slices.Equal(got, all(c.want)) {
			t.Errorf("%v: around the corner of %s opposite to %d are %s, want %s", c.o, c.tile, c.mirror, digits(got...), c.want)
		}
		if one := first(t, c.o, word(c.tile), c.mirror); one != all(c.want)[0] {
			t.Errorf("%v: First of %s and %d is %s, want %s", c.o, c.tile, c.mirror, digits(one), digits(all(c.want)[0]))
		}
	}
}

// P4.4: corners, sides and tiles.
func TestCells(t *testing.T) {
	for _, c := range []struct {
		o    api.Orders
		n    int
		want figure
	}{
		{usual(), 0, figure{3, 3, 1}}, {usual(), 1, figure{6, 9, 4}}, {usual(), 2, figure{10, 18, 9}}, {usual(), 3, figure{15, 30, 16}},
		{api.Orders{}, 0, figure{0, 3, 1}}, {api.Orders{}, 1, figure{0, 9, 4}}, {api.Orders{}, 2, figure{0, 21, 10}},
		{api.Orders{M01: 2}, 0, figure{1, 3, 1}}, {api.Orders{M01: 2}, 1, figure{2, 9, 4}}, {api.Orders{M01: 2}, 2, figure{4, 18, 9}},
		{api.Orders{M12: 3, M02: 2}, 0, figure{2, 3, 1}}, {api.Orders{M12: 3, M02: 2}, 1, figure{4, 9, 4}}, {api.Orders{M12: 3, M02: 2}, 2, figure{7, 18, 9}},
	} {
		if got := cells(t, c.o, c.n); got != c.want {
			t.Errorf("%v: the rings up to %d have %v, want %v", c.o, c.n, got, c.want)
		}
	}
}

// P1, P2: errors of numbers, behind those of orders.
func TestErrorsOfNumbers(t *testing.T) {
	small, full := api.Orders{M01: 2, M12: 3, M02: 6}, api.Orders{M01: 7, M12: 9, M02: 2}
	for _, c := range []struct {
		o           api.Orders
		n           int
		list, count api.Errno
	}{
		{usual(), 14, api.OK, api.OK}, {usual(), 15, api.ErrFull, api.OK}, {usual(), 1000, api.ErrFull, api.OK}, {usual(), 1001, api.ErrFull, api.ErrFull},
		{usual(), math.MaxInt, api.ErrFull, api.ErrFull}, {usual(), -1, api.ErrArg, api.ErrArg}, {usual(), math.MinInt, api.ErrArg, api.ErrArg},
		{api.Orders{}, 15, api.ErrFull, api.OK}, {api.Orders{}, -1, api.ErrArg, api.ErrArg},
		{small, 2, api.ErrArg, api.ErrArg}, {small, -1, api.ErrArg, api.ErrArg}, {small, 1001, api.ErrArg, api.ErrArg},
		{full, 2, api.ErrFull, api.ErrFull}, {full, -1, api.ErrFull, api.ErrFull}, {full, 1001, api.ErrFull, api.ErrFull},
	} {
		l, err := tiles.Ring(c.o, c.n)
		if err != c.list || (err != api.OK && len(l) != 0) {
			t.Errorf("%v: Ring %d: %d tiles, the error %d, want %d", c.o, c.n, len(l), err, c.list)
		}
		corners, edges, all, err := tiles.Cells(c.o, c.n)
		if err != c.list || (err != api.OK && corners+edges+all != 0) {
			t.Errorf("%v: Cells %d: %d, %d, %d, the error %d, want %d", c.o, c.n, corners, edges, all, err, c.list)
		}
		k, err := tiles.Count(c.o, c.n)
		if err != c.count || (err != api.OK && k != 0) {
			t.Errorf("%v: Count %d: %d, the error %d, want %d", c.o, c.n, k, err, c.count)
		}
	}
}

// P2: orders that are not allowed are ahead of all.
func TestErrorsOfOrders(t *testing.T) {
	for _, c := range []struct {
		o    api.Orders
		want api.Errno
	}{
		{api.Orders{M01: 2, M12: 2}, api.ErrArg}, {api.Orders{M01: 3, M12: 3, M02: 3}, api.ErrArg}, {api.Orders{M12: 1}, api.ErrArg}, {api.Orders{M02: 13}, api.ErrArg},
		{api.Orders{M01: -3, M12: 7, M02: 2}, api.ErrArg}, {api.Orders{M01: math.MinInt, M12: math.MaxInt}, api.ErrArg},
		{api.Orders{M01: 7, M12: 9, M02: 2}, api.ErrFull}, {api.Orders{M01: 11, M12: 12}, api.ErrFull},
	} {
		if num, den, err := tiles.Series(c.o); err != c.want || len(num)+len(den) != 0 {
			t.Errorf("%v: Series: %v by %v, the error %d, want %d", c.o, num, den, err, c.want)
		}
		if n, err := tiles.Far(c.o, "\x03", strings.Repeat("\x00", 61)); err != c.want || n != 0 {
			t.Errorf("%v: Far: %d, the error %d, want %d", c.o, n, err, c.want)
		}
		for _, tile := range []string{"", "\x03", strings.Repeat("\x00", 61)} {
			if n, err := tiles.First(c.o, tile, 3); err != c.want || n != "" {
				t.Errorf("%v: First of %q: %q, the error %d, want %d", c.o, tile, n, err, c.want)
			}
			if l, err := tiles.Around(c.o, tile, -1); err != c.want || len(l) != 0 {
				t.Errorf("%v: Around of %q: %q, the error %d, want %d", c.o, tile, l, err, c.want)
			}
		}
	}
}

// P2: errors of words, in the order of the words.
func TestErrorsOfFar(t *testing.T) {
	long, no := strings.Repeat("\x01", 61), "\x03"
	for _, c := range []struct {
		u, v string
		want api.Errno
	}{
		{no, "", api.ErrArg}, {"", no, api.ErrArg}, {long, "", api.ErrFull}, {"", long, api.ErrFull}, {long + no, "", api.ErrArg}, {"", long + no, api.ErrArg},
		{long, no, api.ErrFull}, {no, long, api.ErrArg}, {"012", "", api.ErrArg}, {long[1:], long[1:], api.OK},
	} {
		if n, err := tiles.Far(usual(), c.u, c.v); n != 0 || err != c.want {
			t.Errorf("Far of %q and %q: %d, the error %d, want %d", c.u, c.v, n, err, c.want)
		}
	}
}

// P2: errors of corners: words, then mirrors, then ideal corners.
func TestErrorsOfCorners(t *testing.T) {
	long, no := strings.Repeat("\x01", 61), "\x03"
	half := api.Orders{M01: 3, M02: 2} // the corner opposite to 0 is ideal
	for _, c := range []struct {
		o      api.Orders
		tile   string
		mirror int
		want   api.Errno
	}{
		{usual(), "", 3, api.ErrArg}, {usual(), "", -1, api.ErrArg}, {usual(), "", math.MaxInt, api.ErrArg}, {usual(), "", math.MinInt, api.ErrArg},
		{usual(), no, 0, api.ErrArg}, {usual(), long, 0, api.ErrFull}, {usual(), long + no, 0, api.ErrArg}, {usual(), "0", 0, api.ErrArg},
		{usual(), long, 3, api.ErrFull}, {usual(), long, -1, api.ErrFull}, {usual(), no, 3, api.ErrArg},
		{half, "", 0, api.ErrFull}, {half, no, 0, api.ErrArg}, {half, "", 3, api.ErrArg}, {api.Orders{}, "", 0, api.ErrFull}, {api.Orders{}, "", 1, api.ErrFull}, {api.Orders{}, "", 2, api.ErrFull},
		{api.Orders{}, "", 3, api.ErrArg}, {half, "", 1, api.OK}, {half, "", 2, api.OK}, {usual(), long[1:], 0, api.OK},
	} {
		tile, err := tiles.First(c.o, c.tile, c.mirror)
		if err != c.want || (err != api.OK && tile != "") {
			t.Errorf("%v: First of %q and %d: %q, the error %d, want %d", c.o, c.tile, c.mirror, tile, err, c.want)
		}
		l, err := tiles.Around(c.o, c.tile, c.mirror)
		if err != c.want || (err != api.OK) != (len(l) == 0) {
			t.Errorf("%v: Around of %q and %d: %d tiles, the error %d, want %d", c.o, c.tile, c.mirror, len(l), err, c.want)
		}
	}
}

// P3, P4: a result that is changed changes no other one.
func TestResultsApart(t *testing.T) {
	list, row := ring(t, usual(), 3), around(t, usual(), "", 2)
	num, den := series(t, usual())
	again := slices.Clone(num)
	for i := range list {
		list[i] = "x"
	}
	for i := range row {
		row[i] = "x"
	}
	num = append(num[:3], 99, 99)
	den[0] = 99
	if got := ring(t, usual(), 3); !slices.Equal(got, all("010 012 021 102 121 210 212")) {
		t.Errorf("Ring 3: %q", got)
	}
	if got := around(t, usual(), "", 2); !slices.Equal(got, all("e 0 01 010 10 1")) {
		t.Errorf("Around: %q", got)
	}
	if n, d := series(t, usual()); !slices.Equal(n, again) || d[0] != 1 || num[3] != 99 {
		t.Errorf("Series: %v by %v", n, d)
	}
}
