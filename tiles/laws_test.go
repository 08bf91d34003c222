package tiles_test

import (
	"math/big"
	"math/rand"
	"slices"
	"testing"

	"horocycle/api"
	"horocycle/words"
)

// reached are the tiles of the rings 0 to n, found from side to side.
func reached(t *testing.T, o api.Orders, n int) [][]string {
	t.Helper()
	rings, seen := [][]string{{""}}, map[string]bool{"": true}
	for range n {
		var next []string
		for _, tile := range rings[len(rings)-1] {
			for _, letter := range all("0 1 2") {
				if beside := times(t, o, tile, letter); !seen[beside] {
					seen[beside] = true
					next = append(next, beside)
				}
			}
		}
		slices.Sort(next)
		rings = append(rings, next)
	}
	return rings
}

// P4.1, P4.5: the rings are those that are found from side to side, for many orders.
func TestRingsAreReached(t *testing.T) {
	eachOrders(t, func(t *testing.T, o api.Orders, _ *rand.Rand) {
		for n, want := range reached(t, o, 8) {
			if got := ring(t, o, n); !slices.Equal(got, want) {
				t.Fatalf("the ring %d is %s, want %s", n, digits(got...), digits(want...))
			}
		}
	})
}

// P4.5: each tile stands in one ring, once, and each ring has as many tiles as the series says, for all orders.
func TestRingsAreCounted(t *testing.T) {
	for _, o := range allowedOrders() {
		seen := map[string]bool{}
		for n := range 6 {
			list := ring(t, o, n)
			if uint64(len(list)) != count(t, o, n) || !slices.IsSorted(list) {
				t.Fatalf("%v: the ring %d has %d tiles, Count %d", o, n, len(list), count(t, o, n))
			}
			for _, tile := range list {
				if normal, err := words.Normal(o, tile); err != api.OK || normal != tile || len(tile) != n || seen[tile] {
					t.Fatalf("%v: the ring %d has %s, the normal word %s, the error %d", o, n, digits(tile), digits(normal), err)
				}
				seen[tile] = true
			}
		}
	}
}

// P4.5: the greatest rings that are listed.
func TestGreatestRings(t *testing.T) {
	eachOrders(t, func(t *testing.T, o api.Orders, _ *rand.Rand) {
		sum := 0
		for n := range api.MaxRing + 1 {
			list := ring(t, o, n)
			if uint64(len(list)) != count(t, o, n) || !slices.IsSorted(list) || len(slices.Compact(list)) != int(count(t, o, n)) {
				t.Errorf("the ring %d has %d tiles, Count %d", n, len(list), count(t, o, n))
			}
			sum += len(list)
		}
		if got := cells(t, o, api.MaxRing); got.tiles != sum {
			t.Errorf("%d tiles are counted, %d are listed", got.tiles, sum)
		}
	})
}

// at returns what a polynomial is for a number.
func at(row []int, x *big.Rat) *big.Rat {
	y := new(big.Rat)
	for i := len(row) - 1; i >= 0; i-- {
		y.Mul(y, x)
		y.Add(y, big.NewRat(int64(row[i]), 1))
	}
	return y
}

// turned returns 1 - 3 / (1 + t) + .., by the text of P4.2.
func turned(o api.Orders, t *big.Rat) *big.Rat {
	one := big.NewRat(1, 1)
	side := new(big.Rat).Add(one, t)
	sum := new(big.Rat).Sub(one, new(big.Rat).Quo(big.NewRat(3, 1), side))
	for _, m := range []int{o.M01, o.M12, o.M02} {
		if m == 0 {
			continue
		}
		powers, power := new(big.Rat), big.NewRat(1, 1)
		for range m {
			powers.Add(powers, power)
			power = new(big.Rat).Mul(power, t)
		}
		sum.Add(sum, new(big.Rat).Inv(powers.Mul(powers, side)))
	}
	return sum
}

// P4.2: the series is the fraction that is told, for all orders: they agree in more points than both degrees can have.
func TestSeriesIsTheFraction(t *testing.T) {
	for _, o := range allowedOrders() {
		num, den := series(t, o)
		for x := int64(3); x < 80; x++ { // from 3 on neither is 0
			f := new(big.Rat).Quo(at(den, big.NewRat(1, x)), at(num, big.NewRat(1, x)))
			if want := turned(o, big.NewRat(x, 1)); f.Cmp(want) != 0 {
				t.Fatalf("%v: for t = %d, 1 / f(1/t) is %v, want %v", o, x, f, want)
			}
		}
	}
}

// common returns the degree of the greatest common factor of two polynomials modulo a prime.
func common(a, b []int64, prime int64) int {
	trim := func(row []int64) []int64 {
		for len(row) > 0 && row[len(row)-1]%prime == 0 {
			row = row[:len(row)-1]
		}
		return row
	}
	a, b = trim(a), trim(b)
	for len(b) > 0 {
		for len(a) >= len(b) {
			inverse := new(big.Int).ModInverse(big.NewInt(b[len(b)-1]), big.NewInt(prime)).Int64()
			factor := a[len(a)-1] % prime * inverse % prime
			for i, c := range b {
				k := len(a) - len(b) + i
				a[k] = (a[k] - factor*c%prime) % prime
			}
			a = trim(a)
		}
		a, b = b, a
	}
	return len(a) - 1
}

// P4.4: the series is in lowest terms, with the constant terms 1, and its last coefficients are not 0, for all orders.
func TestSeriesIsLowest(t *testing.T) {
	long := func(row []int) []int64 {
		var out []int64
		for _, c := range row {
			out = append(out, int64(c))
		}
		return out
	}
	for _, o := range allowedOrders() {
		num, den := series(t, o)
		if num[0] != 1 || den[0] != 1 || num[len(num)-1] == 0 || den[len(den)-1] == 0 {
			t.Errorf("%v: %v by %v", o, num, den)
		}
		// A common factor is one modulo each prime too.
		if degree := common(long(num), long(den), 1_000_003); degree != 0 && common(long(num), long(den), 998_244_353) != 0 {
			t.Errorf("%v: %v by %v have a common factor of degree %d", o, num, den, degree)
		}
	}
}

// P4.4: Count is the coefficient of the series modulo 2^64, up to the greatest ring that is counted.
func TestCountIsTheSeries(t *testing.T) {
	mod := new(big.Int).Lsh(big.NewInt(1), 64)
	eachOrders(t, func(t *testing.T, o api.Orders, _ *rand.Rand) {
		num, den := series(t, o)
		row := make([]*big.Int, api.MaxCount+1)
		for n := range row {
			row[n] = new(big.Int)
			if n < len(num) {
				row[n].SetInt64(int64(num[n]))
			}
			for k := 1; k <= min(n, len(den)-1); k++ {
				row[n].Sub(row[n], new(big.Int).Mul(big.NewInt(int64(den[k])), row[n-k]))
			}
			if row[n].Sign() <= 0 {
				t.Fatalf("the ring %d has no tiles", n)
			}
			if n%7 != 0 && n < 990 && n > 100 {
				continue
			}
			if got, want := count(t, o, n), new(big.Int).Mod(row[n], mod).Uint64(); got != want {
				t.Fatalf("the ring %d has %d tiles, want %d", n, got, want)
			}
		}
	})
}

// P4.6: Far is a distance, is kept by motions, and is 1 for tiles that have a side in common.
func TestFarIsADistance(t *testing.T) {
	eachOrders(t, func(t *testing.T, o api.Orders, r *rand.Rand) {
		for range 60 {
			u, v, w, by := anyWord(r, 30), anyWord(r, 30), anyWord(r, 60), anyWord(r, 30)
			uv := far(t, o, u, v)
			if is, err := words.Same(o, u, v); err != api.OK || is != (uv == 0) {
				t.Fatalf("%s and %s are %d apart, Same %v", digits(u), digits(v), uv, is)
			}
			if n := far(t, o, u, times(t, o, u, "")); n != 0 {
				t.Fatalf("%s is %d from itself", digits(u), n)
			}
			if n := far(t, o, v, u); n != uv {
				t.Fatalf("%s and %s are %d apart, %d the other way", digits(u), digits(v), uv, n)
			}
			if uw, wv := far(t, o, u, w), far(t, o, w, v); uv > uw+wv {
				t.Fatalf("%s and %s are %d apart, %d and %d over %s", digits(u), digits(v), uv, uw, wv, digits(w))
			}
			if n := far(t, o, by+u, by+v); n != uv {
				t.Fatalf("%s and %s are %d apart, %d when moved by %s", digits(u), digits(v), uv, n, digits(by))
			}
			if n := far(t, o, u, u+wordOf(r, 1)); n != 1 {
				t.Fatalf("a tile beside %s is %d apart", digits(u), n)
			}
		}
	})
}

// checkAround checks the row around a corner of a tile by the text of P4.3 and P4.4.
func checkAround(t *testing.T, o api.Orders, tile string, mirror int) {
	t.Helper()
	j, k, m := meeting(o, mirror)
	row := around(t, o, tile, mirror)
	if len(row) != 2*m {
		t.Fatalf("%d tiles are around the corner of %s opposite to %d", len(row), digits(tile), mirror)
	}
	want := map[string]bool{}
	for at := range m {
		want[times(t, o, tile, turns(j+k, at))] = true
		want[times(t, o, tile, turns(k+j, at+1))] = true
	}
	seen := map[string]bool{}
	for at, one := range row {
		if !want[one] || seen[one] || at > 0 && len(one) <= len(row[0]) {
			t.Fatalf("the tile %s is around the corner of %s opposite to %d, behind %s", digits(one), digits(tile), mirror, digits(row[:at]...))
		}
		seen[one] = true
	}
	if first(t, o, tile, mirror) != row[0] {
		t.Fatalf("First of %s and %d is %s, Around begins with %s", digits(tile), mirror, digits(first(t, o, tile, mirror)), digits(row[0]))
	}
	for at, letters := 0, j+k; at < len(row); at++ {
		if next := times(t, o, row[0], turns(letters, at+1)); next != row[(at+1)%len(row)] {
			t.Fatalf("around the corner of %s opposite to %d, %s stands in the place of %s", digits(tile), mirror, digits(row[(at+1)%len(row)]), digits(next))
		}
	}
}

// turns returns so many letters of two letters in turns.
func turns(two string, letters int) string {
	var word []byte
	for at := range letters {
		word = append(word, two[at%2])
	}
	return string(word)
}

// P4.3, P4.7: around corners of all kinds, near and as far as words go.
func TestAroundIsARow(t *testing.T) {
	eachOrders(t, func(t *testing.T, o api.Orders, r *rand.Rand) {
		list := []string{"", wordOf(r, 1), longTile(t, o, r), longTile(t, o, r)}
		for range 20 {
			list = append(list, anyWord(r, 60))
		}
		for _, tile := range list {
			for mirror := range 3 {
				if _, _, m := meeting(o, mirror); m != 0 {
					checkAround(t, o, tile, mirror)
				}
			}
		}
	})
}

// P4.7: the row is the same for each of its tiles and the corner of it that is meant, and neighbours are 1 apart.
func TestAroundIsTheSame(t *testing.T) {
	eachOrders(t, func(t *testing.T, o api.Orders, r *rand.Rand) {
		for range 4 {
			tile := anyWord(r, 36)
			for mirror := range 3 {
				_, _, m := meeting(o, mirror)
				if m == 0 {
					continue
				}
				row := around(t, o, tile, mirror)
				for at, one := range row {
					if got := around(t, o, one, mirror); !slices.Equal(got, row) {
						t.Fatalf("around %s opposite to %d are %s, around %s %s", digits(tile), mirror, digits(row...), digits(one), digits(got...))
					}
					if n := far(t, o, one, row[(at+1)%len(row)]); n != 1 {
						t.Fatalf("%s and the next one are %d apart", digits(one), n)
					}
				}
			}
		}
	})
}

// side is a side, told by its two tiles.
type side struct{ one, other string }

// corner is a corner opposite to a mirror, told by all of its tiles.
type corner struct {
	tiles  string
	mirror int
}

// counted counts the sides and the corners of tiles by sets of them.
func counted(t *testing.T, o api.Orders, n int) figure {
	t.Helper()
	all, sides, corners := slices.Concat(reached(t, o, n)...), map[side]bool{}, map[corner]bool{}
	for _, tile := range all {
		for mirror := range 3 {
			beside := times(t, o, tile, string([]byte{byte(mirror)}))
			sides[side{min(tile, beside), max(tile, beside)}] = true
			j, k, m := meeting(o, mirror)
			if m == 0 {
				continue
			}
			var row []string
			for at := range 2 * m {
				row = append(row, times(t, o, tile, turns(j+k, at)))
			}
			slices.Sort(row)
			corners[corner{digits(row...), mirror}] = true
		}
	}
	return figure{len(corners), len(sides), len(all)}
}

// P4.4: Cells counts each corner, side and tile once.
func TestCellsAreCountedOnce(t *testing.T) {
	eachOrders(t, func(t *testing.T, o api.Orders, _ *rand.Rand) {
		for n := range 7 {
			if got, want := cells(t, o, n), counted(t, o, n); got != want {
				t.Errorf("the rings up to %d have %v, want %v", n, got, want)
			}
		}
	})
}

// P4.8: without ideal corners the tiles make a disc, for all orders, and for some as far as they are listed.
func TestDiscs(t *testing.T) {
	disc := func(o api.Orders, n int) {
		if got := cells(t, o, n); got.corners-got.edges+got.tiles != 1 {
			t.Errorf("%v: the rings up to %d have %v", o, n, got)
		}
	}
	for _, o := range allowedOrders() {
		if o.M01 != 0 && o.M12 != 0 && o.M02 != 0 {
			for n := range 6 {
				disc(o, n)
			}
		}
	}
	for n := 6; n <= api.MaxRing; n++ {
		disc(usual(), n)
		disc(api.Orders{M01: 2, M12: 4, M02: 6}, n)
		disc(api.Orders{M01: 3, M12: 3, M02: 4}, n)
	}
	disc(api.Orders{M01: 12, M12: 12, M02: 12}, api.MaxRing)
}
