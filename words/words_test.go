package words_test

import (
	"strings"
	"testing"

	"horocycle/api"
	"horocycle/words"
)

// usual are the orders of the document's examples.
func usual() api.Orders {
	return api.Orders{M01: 3, M12: 7, M02: 2}
}

// P3.2: normal words.
func TestNormal(t *testing.T) {
	right, great, mixed := api.Orders{M12: 2}, api.Orders{M01: 12, M12: 12, M02: 12}, api.Orders{M01: 2, M12: 5, M02: 4}
	for _, c := range []struct {
		o        api.Orders
		from, to string
	}{
		{usual(), "", ""}, {usual(), "2", "2"}, {usual(), "11", ""}, {usual(), "000", "0"}, {usual(), "0110", ""},
		{usual(), "02", "02"}, {usual(), "20", "02"}, {usual(), "010", "010"}, {usual(), "101", "010"}, {usual(), "1010", "01"},
		{usual(), "012", "012"}, {usual(), "210", "210"}, {usual(), "2010", "0210"}, {usual(), "2101", "0210"}, {usual(), "20101", "210"},
		{usual(), "1212121", "1212121"}, {usual(), "2121212", "1212121"}, {usual(), "12121212", "212121"}, {usual(), strings.Repeat("12", 7), ""},
		{api.Orders{}, "02", "02"}, {api.Orders{}, "20", "20"}, {api.Orders{}, "2121212", "2121212"}, {api.Orders{}, "0210120", "0210120"}, {api.Orders{}, "021120", ""},
		{right, "21", "12"}, {right, "1010", "1010"}, {right, "2020", "2020"}, {right, "0210", "0120"}, {right, "1212", ""},
		{great, "212121212121", "121212121212"}, {great, "21212121212", "21212121212"}, {great, "1212121212121", "21212121212"},
		{great, "101010101010", "010101010101"}, {great, "20202020202020", "0202020202"},
		{mixed, "10", "01"}, {mixed, "21212", "12121"}, {mixed, "2020", "0202"}, {mixed, "20201", "02021"}, {mixed, "2120", "2120"},
	} {
		if got := normal(t, c.o, word(c.from)); got != word(c.to) {
			t.Errorf("%v: the normal word of %s is %s, want %s", c.o, c.from, digits(got), c.to)
		}
	}
}

// P3.2: whether words lead to the same tile.
func TestSame(t *testing.T) {
	for _, c := range []struct {
		o    api.Orders
		u, v string
		want bool
	}{
		{usual(), "010", "101", true}, {usual(), "02", "20", true}, {usual(), "", "0110", true}, {usual(), "", "", true}, {usual(), "1212121", "2121212", true},
		{usual(), "", "0", false}, {usual(), "01", "10", false}, {usual(), "121212", "212121", false}, {usual(), "12", "21", false}, {usual(), "0", "1", false},
		{api.Orders{}, "02", "20", false}, {api.Orders{}, "0", "0", true}, {api.Orders{M02: 2}, "02", "20", true}, {api.Orders{M02: 2}, "01", "10", false},
	} {
		if got := same(t, c.o, word(c.u), word(c.v)); got != c.want {
			t.Errorf("%v: Same of %s and %s is %v", c.o, c.u, c.v, got)
		}
	}
}

// P3.2: words one behind another, and from their ends to their beginnings.
func TestTimesAndInverse(t *testing.T) {
	for _, c := range []struct {
		o          api.Orders
		u, v, want string
	}{
		{usual(), "01", "01", "10"}, {usual(), "12", "21", ""}, {usual(), "", "", ""}, {usual(), "", "20", "02"}, {usual(), "20", "", "02"}, {usual(), "2", "0", "02"},
		{usual(), "1", "0", "10"}, {usual(), "10", "1", "010"}, {api.Orders{}, "01", "01", "0101"}, {api.Orders{}, "012", "21", "0"},
	} {
		if got := times(t, c.o, word(c.u), word(c.v)); got != word(c.want) {
			t.Errorf("%v: Times of %s and %s is %s, want %s", c.o, c.u, c.v, digits(got), c.want)
		}
	}
	for _, c := range []struct {
		o          api.Orders
		from, want string
	}{
		{usual(), "", ""}, {usual(), "012", "210"}, {usual(), "01", "10"}, {usual(), "02", "02"}, {usual(), "010", "010"}, {usual(), "0120", "0210"}, {usual(), "1001", ""},
		{api.Orders{}, "02", "20"}, {api.Orders{}, "0121", "1210"},
	} {
		if got := inverse(t, c.o, word(c.from)); got != word(c.want) {
			t.Errorf("%v: Inverse of %s is %s, want %s", c.o, c.from, digits(got), c.want)
		}
	}
}

// P3.3: how often a word has to be made.
func TestOrder(t *testing.T) {
	great := api.Orders{M01: 12, M12: 12, M02: 12}
	for _, c := range []struct {
		o    api.Orders
		word string
		want int
	}{
		{usual(), "", 1}, {usual(), "0110", 1}, {usual(), "0", 2}, {usual(), "1", 2}, {usual(), "2", 2}, {usual(), "01", 3}, {usual(), "10", 3},
		{usual(), "12", 7}, {usual(), "1212", 7}, {usual(), "02", 2}, {usual(), "010", 2}, {usual(), "0120", 7}, {usual(), "012", 0}, {usual(), "0121", 7}, {usual(), "01212", 0}, {usual(), "012012", 0},
		{api.Orders{}, "", 1}, {api.Orders{}, "0", 2}, {api.Orders{}, "01", 0}, {api.Orders{}, "010", 2}, {api.Orders{}, "012", 0}, {api.Orders{}, "0102", 0},
		{api.Orders{M12: 2}, "12", 2}, {api.Orders{M12: 2}, "01", 0}, {api.Orders{M12: 2}, "012", 0}, {api.Orders{M01: 12}, "01", 12}, {api.Orders{M02: 12}, "02", 12}, {api.Orders{M12: 12}, "12", 12},
		{great, "12", 12}, {great, "1212", 6}, {great, "121212", 4}, {great, "12121212", 3}, {great, "1212121212", 12}, {great, "121212121212", 2}, {great, "12121212121212", 12},
		{great, "0120", 12}, {great, "012", 0}, {api.Orders{M01: 2, M12: 5, M02: 4}, "02", 4}, {api.Orders{M01: 2, M12: 5, M02: 4}, "21", 5},
	} {
		if got := order(t, c.o, word(c.word)); got != c.want {
			t.Errorf("%v: the order of %s is %d, want %d", c.o, c.word, got, c.want)
		}
	}
}

// results are what all functions return for one word; what is wrong is told by its error alone.
func results(o api.Orders, w string) map[string]api.Errno {
	errs := map[string]api.Errno{}
	add := func(what string, zero bool, err api.Errno) {
		if !zero && err != api.OK {
			what += " with a result"
		}
		errs[what] = err
	}
	n, err := words.Normal(o, w)
	add("Normal", n == "", err)
	is, err := words.Same(o, w, "")
	add("Same, first word", !is, err)
	is, err = words.Same(o, "", w)
	add("Same, second word", !is, err)
	n, err = words.Times(o, w, "")
	add("Times, first word", n == "", err)
	n, err = words.Times(o, "", w)
	add("Times, second word", n == "", err)
	n, err = words.Inverse(o, w)
	add("Inverse", n == "", err)
	k, err := words.Order(o, w)
	add("Order", k == 0, err)
	return errs
}

// P1, P2: the errors of words, and those of orders ahead of them.
func TestErrors(t *testing.T) {
	long, longest := strings.Repeat("\x00", 61), strings.Repeat("\x00\x01", 500_000)
	for _, c := range []struct {
		o    api.Orders
		word string
		want api.Errno
	}{
		{usual(), "\x03", api.ErrArg}, {usual(), "012", api.ErrArg}, {usual(), "\x00\x01\xff", api.ErrArg}, {usual(), "\x80\x00", api.ErrArg}, {usual(), " ", api.ErrArg},
		{usual(), long, api.ErrFull}, {api.Orders{}, long, api.ErrFull}, {usual(), longest, api.ErrFull},
		{usual(), long + "\x03", api.ErrArg}, {usual(), "\x03" + long, api.ErrArg}, {usual(), longest + "0", api.ErrArg},
		{usual(), long[1:], api.OK}, {api.Orders{}, long[1:], api.OK}, {usual(), longest[:60], api.OK},
		{api.Orders{M01: 2, M12: 3, M02: 6}, "", api.ErrArg}, {api.Orders{M01: 1}, "", api.ErrArg}, {api.Orders{M02: 13}, long, api.ErrArg},
		{api.Orders{M01: 7, M12: 9, M02: 2}, "", api.ErrFull}, {api.Orders{M01: 7, M12: 9, M02: 2}, "\x03", api.ErrFull}, {api.Orders{M01: 7, M12: 9, M02: 13}, "\x03", api.ErrArg},
	} {
		for what, err := range results(c.o, c.word) {
			if err != c.want {
				t.Errorf("%v, %d letters: %s has the error %d, want %d", c.o, len(c.word), what, err, c.want)
			}
		}
	}
}

// P2: the first word's errors are ahead of those of the second one.
func TestErrorsInOrder(t *testing.T) {
	long, no := strings.Repeat("\x01", 61), "\x03"
	for _, c := range []struct {
		o    api.Orders
		u, v string
		want api.Errno
	}{
		{usual(), long, no, api.ErrFull}, {usual(), no, long, api.ErrArg}, {usual(), long + no, long, api.ErrArg}, {usual(), long, long + no, api.ErrFull},
		{usual(), "", no, api.ErrArg}, {usual(), "", long, api.ErrFull}, {usual(), no, "", api.ErrArg}, {usual(), long, "", api.ErrFull},
		{api.Orders{M01: -1}, long, long, api.ErrArg}, {api.Orders{M01: 7, M12: 9, M02: 2}, no, no, api.ErrFull},
	} {
		if is, err := words.Same(c.o, c.u, c.v); is || err != c.want {
			t.Errorf("%v: Same of %q and %q: %v, the error %d, want %d", c.o, c.u, c.v, is, err, c.want)
		}
		if n, err := words.Times(c.o, c.u, c.v); n != "" || err != c.want {
			t.Errorf("%v: Times of %q and %q: %q, the error %d, want %d", c.o, c.u, c.v, n, err, c.want)
		}
	}
}

// ordersFault is the error of orders by the document's text, with angles in parts of pi / 27720, a multiple of all numbers up to 12.
func ordersFault(o api.Orders) api.Errno {
	angles, common := 0, 0
	for _, m := range []int{o.M01, o.M12, o.M02} {
		if m < 0 || m == 1 || m > 12 {
			return api.ErrArg
		}
		if m != 0 {
			angles += 27720 / m
		}
	}
	if angles >= 27720 {
		return api.ErrArg
	}
	for n := 60; n >= 1; n-- {
		divides := func(m int) bool { return m == 0 || n%m == 0 }
		if divides(o.M01) && divides(o.M12) && divides(o.M02) {
			common = n
		}
	}
	if common == 0 {
		return api.ErrFull
	}
	return api.OK
}

// P2 and DOC.md, Terms: which orders are allowed.
func TestOrders(t *testing.T) {
	numbers := []int{-1 << 63, -7, -2, -1, 0, 1, 2, 3, 4, 5, 6, 7, 8, 9, 10, 11, 12, 13, 14, 60, 1<<63 - 1}
	for _, a := range numbers {
		for _, b := range numbers {
			for _, c := range numbers {
				o := api.Orders{M01: a, M12: b, M02: c}
				n, err := words.Normal(o, "\x02\x02\x01")
				if want := ordersFault(o); err != want || (n == "\x01") != (want == api.OK) {
					t.Errorf("%v: Normal of 221 is %q with the error %d, want %d", o, n, err, want)
				}
			}
		}
	}
}

// P3.2: a product, and what is made of it, may have more letters than a word that is handed over.
func TestLongProduct(t *testing.T) {
	u := strings.Repeat("\x00\x01\x02", 20)
	if got := times(t, api.Orders{}, u, u); got != u+u {
		t.Errorf("%d letters: %s", len(got), digits(got))
	}
	if got := times(t, api.Orders{}, u, backward(u)); got != "" {
		t.Errorf("%d letters: %s", len(got), digits(got))
	}
	if got := order(t, api.Orders{M01: 12, M12: 12, M02: 12}, u); got != 0 {
		t.Error(got)
	}
}

// P3, P4: a result depends on the arguments alone.
func TestAgain(t *testing.T) {
	u, v := word("2101"), word("20101")
	first := []string{normal(t, usual(), u), times(t, usual(), u, v), inverse(t, usual(), v)}
	normal(t, api.Orders{}, u)
	if _, err := words.Normal(usual(), "\x03"); err != api.ErrArg {
		t.Error(err)
	}
	again := []string{normal(t, usual(), u), times(t, usual(), u, v), inverse(t, usual(), v)}
	for i := range first {
		if first[i] != again[i] {
			t.Errorf("%s, and then %s", digits(first[i]), digits(again[i]))
		}
	}
	if u != word("2101") || v != word("20101") {
		t.Error("a word was changed")
	}
}
