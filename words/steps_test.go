package words_test

import (
	"math/rand"
	"testing"

	"horocycle/api"
)

// replaced yields the words to which one step leads from a word and that have as many letters, or less.
func replaced(o api.Orders, w string, yield func(string)) {
	for at := range w {
		rest := w[at:]
		if len(rest) < 2 {
			return
		}
		i, j := rest[0], rest[1]
		if i == j {
			yield(w[:at] + rest[2:])
			continue
		}
		m := between(o, i, j)
		if m != 0 && m <= len(rest) && rest[:m] == turns(i, j, m) {
			yield(w[:at] + turns(j, i, m) + rest[m:])
		}
	}
}

// upTo yields the words of up to so many letters, shorter ones first, of one length in the order of letters.
func upTo(letters int, yield func(string)) {
	ring := []string{""}
	for range letters + 1 {
		var next []string
		for _, w := range ring {
			yield(w)
			next = append(next, w+"\x00", w+"\x01", w+"\x02")
		}
		ring = next
	}
}

// classes are words, each with one to which steps lead from it: of words that steps join, all lead to one in the end, the first one.
type classes map[string]string

// end returns the word to which a word leads in the end.
func (c classes) end(w string) string {
	for c[w] != w {
		c[w] = c[c[w]]
		w = c[w]
	}
	return w
}

// join joins two words over a step.
func (c classes) join(u, v string) {
	u, v = c.end(u), c.end(v)
	if before(v, u) {
		u, v = v, u
	}
	c[v] = u
}

// byLength returns the classes of all words of up to so many letters.
func byLength(o api.Orders, letters int) classes {
	c := classes{}
	upTo(letters, func(w string) { c[w] = w })
	upTo(letters, func(w string) {
		replaced(o, w, func(v string) { c.join(w, v) })
	})
	return c
}

// P3.1, P3.2, P3.4: the normal word is the first one of all words to which steps lead, of the shortest ones.
func TestFirstOfClass(t *testing.T) {
	eachOrders(t, func(t *testing.T, o api.Orders, r *rand.Rand) {
		c := byLength(o, 9)
		upTo(9, func(w string) {
			if got := normal(t, o, w); got != c.end(w) {
				t.Errorf("%v: the normal word of %s is %s, want %s", o, digits(w), digits(got), digits(c.end(w)))
			}
		})
		for range 5000 {
			u, v := wordOf(r, r.Intn(10)), wordOf(r, r.Intn(10))
			if r.Intn(2) == 0 {
				v = c.end(u)
			}
			if got := same(t, o, u, v); got != (c.end(u) == c.end(v)) {
				t.Errorf("%v: Same of %s and %s is %v", o, digits(u), digits(v), got)
			}
		}
	})
}

// step returns a word after some step.
func step(o api.Orders, r *rand.Rand, w string) string {
	at, i := r.Intn(len(w)+1), byte(r.Intn(3))
	j := (i + 1 + byte(r.Intn(2))) % 3
	m := between(o, i, j)
	switch rest := w[at:]; {
	case len(rest) >= 2 && rest[0] == rest[1] && r.Intn(2) == 0:
		return w[:at] + rest[2:]
	case m != 0 && m <= len(rest) && rest[:m] == turns(i, j, m):
		return w[:at] + turns(j, i, m) + rest[m:]
	case m != 0 && len(w)+2*m <= api.MaxWord && r.Intn(4) == 0: // letters put in, and some of them in other rows
		return w[:at] + turns(i, j, m) + backward(turns(j, i, m)) + rest
	case len(w)+2 <= api.MaxWord:
		return w[:at] + string([]byte{i, i}) + rest
	}
	return w
}

// P3.1, P3.4: steps do not change the normal word.
func TestStepsKeepNormalWords(t *testing.T) {
	eachOrders(t, func(t *testing.T, o api.Orders, r *rand.Rand) {
		for range 100 {
			from := anyWord(r, 60)
			want, w := normal(t, o, from), from
			for range 100 {
				w = step(o, r, w)
				if got := normal(t, o, w); got != want || !same(t, o, from, w) {
					t.Fatalf("%v: %s and, by steps, %s have the normal words %s and %s", o, digits(from), digits(w), digits(want), digits(got))
				}
			}
		}
	})
}

// P3.1, P3.4: a letter more leads to another tile, and to one whose words have the other number of letters modulo 2.
func TestOtherTiles(t *testing.T) {
	eachOrders(t, func(t *testing.T, o api.Orders, r *rand.Rand) {
		for range 200 {
			w := anyWord(r, 59)
			for letter := range byte(3) {
				next := w + string([]byte{letter})
				if same(t, o, w, next) {
					t.Errorf("%v: %s and %s lead to the same tile", o, digits(w), digits(next))
				}
				if n := len(normal(t, o, next)) - len(normal(t, o, w)); n != 1 && n != -1 {
					t.Errorf("%v: %s leads %d farther than %s", o, digits(next), n, digits(w))
				}
			}
		}
	})
}
