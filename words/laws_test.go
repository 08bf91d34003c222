package words_test

import (
	"math/rand"
	"testing"

	"horocycle/api"
)

// P3.4: what normal words are like.
func TestNormalWordLaws(t *testing.T) {
	eachOrders(t, func(t *testing.T, o api.Orders, r *rand.Rand) {
		for range 200 {
			w := anyWord(r, 60)
			n := normal(t, o, w)
			if len(n) > len(w) || (len(w)-len(n))%2 != 0 {
				t.Errorf("%v: %s has the normal word %s", o, digits(w), digits(n))
			}
			for at := range len(n) + 1 {
				for _, part := range []string{n[:at], n[at:]} {
					if got := normal(t, o, part); got != part {
						t.Errorf("%v: the part %s of the normal word %s has the normal word %s", o, digits(part), digits(n), digits(got))
					}
				}
			}
		}
	})
}

// P3.5: words one behind another are a group.
func TestGroupLaws(t *testing.T) {
	eachOrders(t, func(t *testing.T, o api.Orders, r *rand.Rand) {
		for range 500 {
			u, v, w := anyWord(r, 30), anyWord(r, 30), anyWord(r, 30)
			left, right := times(t, o, times(t, o, u, v), w), times(t, o, u, times(t, o, v, w))
			if left != right {
				t.Errorf("%v: (u v) w is %s, u (v w) is %s with u %s, v %s, w %s", o, digits(left), digits(right), digits(u), digits(v), digits(w))
			}
			if got := times(t, o, u, v); got != normal(t, o, u+v) {
				t.Errorf("%v: Times of %s and %s is %s", o, digits(u), digits(v), digits(got))
			}
			if got := inverse(t, o, u); got != normal(t, o, backward(u)) {
				t.Errorf("%v: Inverse of %s is %s", o, digits(u), digits(got))
			}
			if got := times(t, o, u, backward(u)) + times(t, o, inverse(t, o, u), u); got != "" {
				t.Errorf("%v: %s with its inverse leads to %s", o, digits(u), digits(got))
			}
		}
	})
}

// isOrder reports whether a word of so many letters can have an order.
func isOrder(o api.Orders, n, letters int) bool {
	if letters%2 != 0 {
		return n == 0 || n%2 == 0
	}
	if n <= 2 {
		return true
	}
	for _, m := range []int{o.M01, o.M12, o.M02} {
		if m != 0 && m%n == 0 {
			return true
		}
	}
	return false
}

// P3.3, P3.5: orders.
func TestOrderLaws(t *testing.T) {
	eachOrders(t, func(t *testing.T, o api.Orders, r *rand.Rand) {
		for range 500 {
			x, w := anyWord(r, 24), anyWord(r, 12)
			n := order(t, o, w)
			if !isOrder(o, n, len(w)) {
				t.Errorf("%v: the order of %s is %d", o, digits(w), n)
			}
			if got := order(t, o, x+w+backward(x)); got != n {
				t.Errorf("%v: the order of %s is %d, moved by %s it is %d", o, digits(w), n, digits(x), got)
			}
			power := ""
			for k := 1; k <= 13 && len(power) <= api.MaxWord; k++ {
				power = times(t, o, power, w)
				if (power == "") != (n != 0 && k%n == 0) {
					t.Errorf("%v: the order of %s is %d, made %d times it leads to %s", o, digits(w), n, k, digits(power))
				}
			}
		}
	})
}

// P3.3: the orders of rows of two letters in turns, wherever they are.
func TestOrdersOfTurns(t *testing.T) {
	eachOrders(t, func(t *testing.T, o api.Orders, r *rand.Rand) {
		for i := range byte(3) {
			for j := range byte(3) {
				if i == j {
					continue
				}
				m := between(o, i, j)
				for k := 1; k <= 15; k++ {
					want := 0
					if m != 0 {
						want = m / gcd(m, k)
					}
					x := anyWord(r, 15)
					if got := order(t, o, x+turns(i, j, 2*k)+backward(x)); got != want {
						t.Errorf("%v: the order of %s, moved by %s, is %d, want %d", o, digits(turns(i, j, 2*k)), digits(x), got, want)
					}
					if got := order(t, o, x+turns(i, j, 2*k-1)+backward(x)); got != 2 {
						t.Errorf("%v: the order of %s, moved by %s, is %d, want 2", o, digits(turns(i, j, 2*k-1)), digits(x), got)
					}
				}
			}
		}
	})
}

func gcd(a, b int) int {
	for b != 0 {
		a, b = b, a%b
	}
	return a
}
