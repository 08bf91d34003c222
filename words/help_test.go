package words_test

import (
	"math/rand"
	"strconv"
	"strings"
	"testing"

	"horocycle/api"
	"horocycle/words"
)

// someOrders are orders of all kinds: with ideal corners and without, with right angles and without, in all places.
func someOrders() []api.Orders {
	return []api.Orders{
		{}, {M12: 2}, {M01: 3}, {M01: 3, M02: 2}, {M01: 2, M12: 3}, {M12: 3, M02: 12}, // ideal corners
		{M01: 3, M12: 7, M02: 2}, {M01: 7, M12: 3, M02: 2}, {M01: 2, M12: 3, M02: 7}, {M01: 7, M12: 2, M02: 3}, {M01: 3, M12: 2, M02: 8},
		{M01: 4, M12: 5, M02: 2}, {M01: 2, M12: 6, M02: 4}, {M01: 5, M12: 2, M02: 5}, {M01: 12, M12: 12, M02: 2},
		{M01: 3, M12: 3, M02: 4}, {M01: 4, M12: 4, M02: 4}, {M01: 3, M12: 4, M02: 5}, {M01: 12, M12: 12, M02: 12},
	}
}

// eachOrders runs a check for many orders.
func eachOrders(t *testing.T, check func(t *testing.T, o api.Orders, r *rand.Rand)) {
	t.Helper()
	for i, o := range someOrders() {
		t.Run(strconv.Itoa(o.M01)+" "+strconv.Itoa(o.M12)+" "+strconv.Itoa(o.M02), func(t *testing.T) {
			t.Parallel()
			check(t, o, rand.New(rand.NewSource(int64(i))))
		})
	}
}

// between returns the order of the corner between two different mirrors.
func between(o api.Orders, i, j byte) int {
	return [3][3]int{{0, o.M01, o.M02}, {o.M01, 0, o.M12}, {o.M02, o.M12, 0}}[i][j]
}

// turns returns the word i j i j .. of so many letters.
func turns(i, j byte, letters int) string {
	return strings.Repeat(string([]byte{i, j}), letters)[:letters]
}

// word returns the word that is written with the digits 0, 1, 2.
func word(digits string) string {
	return strings.NewReplacer("0", "\x00", "1", "\x01", "2", "\x02").Replace(digits)
}

// digits returns the digits of a word.
func digits(word string) string {
	return strings.NewReplacer("\x00", "0", "\x01", "1", "\x02", "2").Replace(word)
}

// backward returns a word from its end to its beginning.
func backward(word string) string {
	var letters []byte
	for i := range len(word) {
		letters = append(letters, word[len(word)-1-i])
	}
	return string(letters)
}

// wordOf returns some word of so many letters.
func wordOf(r *rand.Rand, letters int) string {
	text := make([]byte, letters)
	for i := range text {
		text[i] = byte(r.Intn(3))
	}
	return string(text)
}

// anyWord returns some word of up to so many letters. Some of them are long ways along a line, which have many shortest words.
func anyWord(r *rand.Rand, letters int) string {
	letters = r.Intn(letters + 1)
	if r.Intn(2) == 0 {
		return wordOf(r, letters)
	}
	part := wordOf(r, 1+r.Intn(8))
	return strings.Repeat(part, letters)[:letters]
}

// before reports whether a word stands ahead of another one in the order of normal words: shorter ones first, of one length in the order of letters.
func before(u, v string) bool {
	return len(u) < len(v) || len(u) == len(v) && u < v
}

func normal(t *testing.T, o api.Orders, w string) string {
	t.Helper()
	n, err := words.Normal(o, w)
	if err != api.OK {
		t.Fatalf("%v: Normal of %s: the error %d", o, digits(w), err)
	}
	return n
}

func same(t *testing.T, o api.Orders, u, v string) bool {
	t.Helper()
	is, err := words.Same(o, u, v)
	if err != api.OK {
		t.Fatalf("%v: Same of %s and %s: the error %d", o, digits(u), digits(v), err)
	}
	return is
}

func times(t *testing.T, o api.Orders, u, v string) string {
	t.Helper()
	n, err := words.Times(o, u, v)
	if err != api.OK {
		t.Fatalf("%v: Times of %s and %s: the error %d", o, digits(u), digits(v), err)
	}
	return n
}

func inverse(t *testing.T, o api.Orders, w string) string {
	t.Helper()
	n, err := words.Inverse(o, w)
	if err != api.OK {
		t.Fatalf("%v: Inverse of %s: the error %d", o, digits(w), err)
	}
	return n
}

func order(t *testing.T, o api.Orders, w string) int {
	t.Helper()
	n, err := words.Order(o, w)
	if err != api.OK {
		t.Fatalf("%v: Order of %s: the error %d", o, digits(w), err)
	}
	return n
}
