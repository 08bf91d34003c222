package field_test

import (
	"math"
	"strings"
	"testing"

	"horocycle/api"
	"horocycle/field"
)

// newField returns the field of a level that is allowed.
func newField(t *testing.T, level int) *field.Field {
	t.Helper()
	f, err := field.New(level)
	if err != api.OK || f == nil {
		t.Fatal("no field of the level", level, err)
	}
	return f
}

// read returns the number of a text that is one.
func read(t *testing.T, f *field.Field, text string) field.Elem {
	t.Helper()
	x, err := f.Read(text)
	if err != api.OK {
		t.Fatalf("no number of %.40q: %d", text, err)
	}
	return x
}

// way is Add, Sub, Mul or Div.
type way func(x, y field.Elem) (field.Elem, api.Errno)

func ways() map[string]way {
	return map[string]way{"Add": field.Elem.Add, "Sub": field.Elem.Sub, "Mul": field.Elem.Mul, "Div": field.Elem.Div}
}

// make2 returns what a way makes of two numbers for which it has no error.
func make2(t *testing.T, do way, x, y field.Elem) field.Elem {
	t.Helper()
	z, err := do(x, y)
	if err != api.OK {
		t.Fatalf("%.40s, %.40s: %d", x.Text(), y.Text(), err)
	}
	return z
}

func add(t *testing.T, x, y field.Elem) field.Elem {
	t.Helper()
	return make2(t, field.Elem.Add, x, y)
}

func sub(t *testing.T, x, y field.Elem) field.Elem {
	t.Helper()
	return make2(t, field.Elem.Sub, x, y)
}

func mul(t *testing.T, x, y field.Elem) field.Elem {
	t.Helper()
	return make2(t, field.Elem.Mul, x, y)
}

func div(t *testing.T, x, y field.Elem) field.Elem {
	t.Helper()
	return make2(t, field.Elem.Div, x, y)
}

func cmp(t *testing.T, x, y field.Elem) int {
	t.Helper()
	c, err := x.Cmp(y)
	if err != api.OK {
		t.Fatal(err)
	}
	return c
}

// noNumber checks that a result is that of an error.
func noNumber(t *testing.T, what string, x field.Elem, err, want api.Errno) {
	t.Helper()
	if err != want || x.Text() != "" || x.Sign() != 0 {
		t.Errorf("%s: %.20q with the error %d, want the error %d", what, x.Text(), err, want)
	}
}

// nines are the digits of the greatest number of so many digits; ten those of the least one.
func nines(digits int) string { return strings.Repeat("9", digits) }
func ten(digits int) string   { return "1" + strings.Repeat("0", digits-1) }
func five(digits int) string  { return "5" + strings.Repeat("0", digits-1) }

// P1.1: the degree, and its numbers of coefficients.
func TestDegree(t *testing.T) {
	for level := 1; level <= api.MaxLevel; level++ {
		want := 0
		for k := 1; k <= 2*level; k++ {
			a, b := k, 2*level
			for b != 0 {
				a, b = b, a%b
			}
			if a == 1 {
				want++
			}
		}
		if want /= 2; level <= 3 {
			want = 1
		}
		f := newField(t, level)
		if f.Degree() != want || f.Level() != level {
			t.Errorf("level %d: level %d, degree %d, want the degree %d", level, f.Level(), f.Degree(), want)
		}
		if n := len(strings.Fields(f.Cos(1).Text())); n != want {
			t.Errorf("level %d: %d coefficients", level, n)
		}
	}
}

// P1.1: the numbers L^0 to L^(d-1) have a single coefficient 1.
func TestPowersOfL(t *testing.T) {
	for level := 4; level <= api.MaxLevel; level++ {
		f := newField(t, level)
		power := f.Int(1)
		for i := range f.Degree() {
			coefficients := strings.Split(strings.Repeat("0 ", f.Degree()-1)+"0", " ")
			coefficients[i] = "1"
			if want := strings.Join(coefficients, " "); power.Text() != want {
				t.Fatalf("level %d: L^%d is %s", level, i, power.Text())
			}
			power = mul(t, power, f.Cos(1))
		}
	}
}

// P1.2: levels that are allowed.
func TestLevels(t *testing.T) {
	for _, level := range []int{0, -1, api.MaxLevel + 1, math.MinInt, math.MaxInt} {
		if f, err := field.New(level); f != nil || err != api.ErrArg {
			t.Errorf("level %d: %v, %d", level, f, err)
		}
	}
	if f := newField(t, api.MaxLevel); f.Level() != 60 || f.Degree() != 16 {
		t.Error(f.Level(), f.Degree())
	}
}

// P1.2: whole numbers.
func TestInt(t *testing.T) {
	one, five := newField(t, 1), newField(t, 5)
	for n, want := range map[int64]string{0: "0", 1: "1", -1: "-1", 7: "7", math.MaxInt64: "9223372036854775807", math.MinInt64: "-9223372036854775808"} {
		if got := one.Int(n).Text(); got != want {
			t.Errorf("%d: %s", n, got)
		}
		if got := five.Int(n).Text(); got != want+" 0" {
			t.Errorf("%d: %s", n, got)
		}
	}
}

// P1.2: the texts of cosines, for every k.
func TestCos(t *testing.T) {
	for level, want := range map[int][]string{
		1: {"2", "-2"},
		2: {"2", "0", "-2"},
		3: {"2", "1", "-1", "-2"},
		4: {"2 0", "0 1", "0 0", "0 -1", "-2 0"},
		5: {"2 0", "0 1", "-1 1", "1 -1", "0 -1", "-2 0"},
		7: {"2 0 0", "0 1 0", "-2 0 1"},
	} {
		f := newField(t, level)
		for k, text := range want {
			for _, same := range []int{k, -k, k + 2*level, k - 2*level, 2000*level - k} {
				if got := f.Cos(same).Text(); got != text {
					t.Errorf("level %d, k %d: %s, want %s", level, same, got, text)
				}
			}
		}
	}
	f := newField(t, 60)
	for _, k := range []int{math.MaxInt, math.MinInt, math.MinInt + 1} {
		small := k % 120
		if f.Cos(k).Text() != f.Cos(small).Text() {
			t.Errorf("k %d: %s, that of %d is %s", k, f.Cos(k).Text(), small, f.Cos(small).Text())
		}
	}
}

// P1.2: two fields of one level are the same.
func TestSameField(t *testing.T) {
	f, g := newField(t, 7), newField(t, 7)
	if got := add(t, f.Cos(1), g.Int(1)).Text(); got != "1 1 0" {
		t.Error(got)
	}
	if cmp(t, f.Cos(1), g.Cos(1)) != 0 || div(t, f.Cos(2), g.Cos(2)).Text() != "1 0 0" {
		t.Error("numbers of two fields of one level")
	}
}

// P1.2, P1: a field that is none.
func TestNoField(t *testing.T) {
	for _, f := range []*field.Field{nil, {}, new(field.Field)} {
		if f.Level() != 0 || f.Degree() != 0 {
			t.Error(f.Level(), f.Degree())
		}
		noNumber(t, "Int", f.Int(1), api.OK, api.OK)
		noNumber(t, "Cos", f.Cos(0), api.OK, api.OK)
		for _, text := range []string{"1", "", "no number", strings.Repeat("1", api.MaxDigits+1)} {
			x, err := f.Read(text)
			noNumber(t, "Read", x, err, api.ErrArg)
		}
	}
}

// P1.3: texts that are read, and are the texts of what is read.
func TestRead(t *testing.T) {
	for level, texts := range map[int][]string{
		1: {"0", "1", "-1", "10", "1/2", "-1/2", "22/7", "-100000000000000000000000000000000000001/3", "18446744073709551616", "1/18446744073709551616", "18446744073709551615/18446744073709551616"},
		5: {"0 0", "1 -1", "-1/2 2/3", "0 -7/9", "1/3 1/3"},
		7: {"1/2 1/3 1/5", "0 0 -1", "12345678901234567890/11 0 1"},
	} {
		f := newField(t, level)
		for _, text := range texts {
			if got := read(t, f, text).Text(); got != text {
				t.Errorf("level %d: %s is read as %s", level, text, got)
			}
		}
	}
}

// P1.3: texts that are none.
func TestReadForm(t *testing.T) {
	for level, texts := range map[int][]string{
		2: {"", " ", "2/4", "01", "+1", "1 0", "-0", "1/1", "0/2", "0/1", "1/0", "0/0", "-", "/", "1/", "/2", "-/2", "1/-2", "-1/-2", "1/+2", "1/02", "00", "-01",
			" 1", "1 ", "\t1", "1\n", "1_0", "1.0", "1e3", "0x1", "--1", "1//2", "1/2/3", "x", "1\x00", "٣", "½", "1/1" + strings.Repeat("0", 3997) + "0", strings.Repeat("2", api.MaxText+1), "2/" + strings.Repeat("2", 3000)},
		5: {"1", "1 0 0", "1  0", " 1 0", "1 0 ", "1,0", "1\t0", "0 2/4", "2/4 0", "1/2 -0", ""},
	} {
		f := newField(t, level)
		for _, text := range texts {
			x, err := f.Read(text)
			noNumber(t, text[:min(20, len(text))], x, err, api.ErrForm)
		}
	}
}

// P1.3, P1.5: texts of numbers that are too large; ErrForm stands ahead of ErrFull.
func TestReadFull(t *testing.T) {
	one, five := newField(t, 1), newField(t, 5)
	for _, digits := range []string{nines(1000), ten(1000), nines(999), ten(1001)[:1000]} {
		read(t, one, digits)
		read(t, one, "-"+digits)
		read(t, one, "1/"+digits)
		read(t, five, "0 "+digits)
	}
	read(t, one, "-"+ten(1000)+"/"+nines(1000))
	read(t, five, ten(1000)+"/"+nines(1000)+" -"+nines(900)+"/"+ten(1000))
	for _, text := range []string{ten(1001), "-" + ten(1001), "1/" + ten(1001), nines(1001), nines(4000), ten(2000) + "/" + nines(1999)} {
		x, err := one.Read(text)
		noNumber(t, "too large", x, err, api.ErrFull)
	}
	x, err := five.Read("0 " + ten(1001))
	noNumber(t, "too large", x, err, api.ErrFull)
	for _, text := range []string{ten(1001) + " 01", ten(1001), ten(1001) + " 2/4", ten(1001) + "/2 0"} {
		x, err := five.Read(text)
		noNumber(t, "no text, and too large", x, err, api.ErrForm)
	}
}

// P1.4: sums, differences, products and quotients by their texts.
func TestWays(t *testing.T) {
	for _, c := range []struct {
		level              int
		name, x, y, result string
	}{
		{1, "Add", "1/2", "1/3", "5/6"},
		{1, "Add", "1/2", "-1/2", "0"},
		{1, "Add", "18446744073709551615", "1", "18446744073709551616"},
		{1, "Sub", "1/6", "1/2", "-1/3"},
		{1, "Sub", "18446744073709551616", "1", "18446744073709551615"},
		{1, "Mul", "-2/3", "3/2", "-1"},
		{1, "Mul", "4294967296", "4294967296", "18446744073709551616"},
		{1, "Div", "-2/3", "-4/9", "3/2"},
		{1, "Div", "0", "-5", "0"},
		{1, "Div", "5", "-10", "-1/2"},
		{5, "Mul", "0 1", "0 1", "1 1"},
		{5, "Div", "1 0", "0 1", "-1 1"},
		{5, "Div", "1 0", "1/2 1/2", "4 -2"},
		{5, "Add", "1/2 1/3", "1/2 1/6", "1 1/2"},
		{5, "Div", "2 4", "-2/3 0", "-3 -6"},
		{4, "Mul", "0 1", "0 1", "2 0"},
		{4, "Div", "1 0", "0 1", "0 1/2"},
		{4, "Div", "1 1", "3 -1", "5/7 4/7"},
		{7, "Mul", "0 0 1", "0 1 0", "-1 2 1"},
		{7, "Div", "0 1 0", "-2 0 1", "0 -1 1"},
		{7, "Sub", "0 1 0", "0 1 0", "0 0 0"},
	} {
		f := newField(t, c.level)
		if got := make2(t, ways()[c.name], read(t, f, c.x), read(t, f, c.y)).Text(); got != c.result {
			t.Errorf("level %d: %s of %s and %s is %s, want %s", c.level, c.name, c.x, c.y, got, c.result)
		}
	}
}

// P1.4, P2: the errors of numbers that are none, and of two levels, in their order.
func TestWayErrors(t *testing.T) {
	one, two := newField(t, 2), newField(t, 3)
	none := field.Elem{}
	for _, c := range []struct {
		x, y field.Elem
		want api.Errno
	}{
		{none, none, api.ErrArg},
		{none, one.Int(1), api.ErrArg},
		{one.Int(1), none, api.ErrArg},
		{none, one.Int(0), api.ErrArg},
		{one.Int(1), two.Int(1), api.ErrField},
		{one.Int(1), two.Int(0), api.ErrField},
		{read(t, one, nines(1000)), read(t, two, nines(1000)), api.ErrField},
	} {
		for name, do := range ways() {
			x, err := do(c.x, c.y)
			noNumber(t, name, x, err, c.want)
		}
		if n, err := c.x.Cmp(c.y); n != 0 || err != c.want {
			t.Error("Cmp", n, err)
		}
	}
	if none.Sign() != 0 || none.Text() != "" {
		t.Error("a number that is none")
	}
	if n, err := none.Floor(); n != 0 || err != api.ErrArg {
		t.Error("Floor", n, err)
	}
}

// P1.4: a division by 0.
func TestDivZero(t *testing.T) {
	for level := 1; level <= api.MaxLevel; level++ {
		f := newField(t, level)
		zero := sub(t, f.Cos(1), f.Cos(1))
		for _, x := range []field.Elem{f.Int(0), f.Int(1), f.Cos(1)} {
			z, err := x.Div(zero)
			noNumber(t, "Div", z, err, api.ErrField)
		}
	}
}

// P1.4: signs and order.
func TestSign(t *testing.T) {
	for level, texts := range map[int][]string{ // ascending
		1: {"-18446744073709551616", "-3", "-5/2", "-1/1000", "0", "1/" + nines(1000), "1/" + ten(1000), "1", nines(1000)},
		// The golden ratio lies between the quotients of following Fibonacci numbers.
		5: {"-1 0", "-2 1", "-1346269/832040 1", "-3524578/2178309 1", "0 0", "-2178309/1346269 1", "-832040/514229 1", "1/2 0", "0 1", "3 -1/2", "0 2"},
		// The square root of 2.
		4: {"-3/2 1", "-17/12 1", "-99/70 1", "-577/408 1", "0 0", "-1393/985 1", "-239/169 1", "-1 1", "1 0", "0 1"},
		7: {"-2 0 0", "0 -1 0", "-7/4 0 0", "-10 5 0", "0 0 0", "-2 0 1", "0 1 0", "2 0 0"},
	} {
		f := newField(t, level)
		zero := f.Int(0)
		for i, a := range texts {
			x := read(t, f, a)
			if x.Sign() != cmp(t, x, zero) {
				t.Errorf("level %d: the sign of %.40s is %d", level, a, x.Sign())
			}
			for j, b := range texts {
				want := 0
				if i < j {
					want = -1
				} else if i > j {
					want = 1
				}
				if got := cmp(t, x, read(t, f, b)); got != want {
					t.Errorf("level %d: %.40s and %.40s: %d", level, a, b, got)
				}
			}
		}
	}
}

// P1.4: Cmp, where the difference would be ErrFull.
func TestCmpFull(t *testing.T) {
	one, five := newField(t, 1), newField(t, 5)
	x, y := read(t, one, nines(1000)), read(t, one, "-"+nines(1000))
	if _, err := x.Sub(y); err != api.ErrFull {
		t.Error(err)
	}
	if cmp(t, x, y) != 1 || cmp(t, y, x) != -1 || cmp(t, x, x) != 0 {
		t.Error("the order of long numbers")
	}
	x, y = read(t, one, "1/"+nines(1000)), read(t, one, "1/"+ten(1000))
	if _, err := x.Sub(y); err != api.ErrFull {
		t.Error(err)
	}
	if cmp(t, x, y) != -1 || cmp(t, y, x) != 1 {
		t.Error("the order of numbers with long denominators")
	}
	x, y = read(t, five, "0 "+nines(1000)), read(t, five, "0 -"+nines(1000))
	if _, err := x.Sub(y); err != api.ErrFull {
		t.Error(err)
	}
	if cmp(t, x, y) != 1 || cmp(t, y, x) != -1 {
		t.Error("the order of long numbers of the level 5")
	}
}

// P1.4: the greatest whole number that is at most a number.
func TestFloor(t *testing.T) {
	for _, c := range []struct {
		level int
		text  string
		floor int64
		err   api.Errno
	}{
		{1, "0", 0, api.OK},
		{1, "-1/2", -1, api.OK},
		{1, "-1", -1, api.OK},
		{1, "7/2", 3, api.OK},
		{1, "9223372036854775807", math.MaxInt64, api.OK},
		{1, "18446744073709551615/2", math.MaxInt64, api.OK},
		{1, "9223372036854775808", 0, api.ErrFull},
		{1, "-9223372036854775808", math.MinInt64, api.OK},
		{1, "-18446744073709551615/2", math.MinInt64, api.OK},
		{1, "-18446744073709551617/2", 0, api.ErrFull},
		{1, "-9223372036854775809", 0, api.ErrFull},
		{1, "1/" + nines(1000), 0, api.OK},
		{1, "-1/" + nines(1000), -1, api.OK},
		{1, nines(1000), 0, api.ErrFull},
		{5, "0 1", 1, api.OK},
		{5, "0 -1", -2, api.OK},
		{5, "4 0", 4, api.OK},
		{5, "-1346269/832040 1", -1, api.OK},
		{5, "-2178309/1346269 1", 0, api.OK},
		{5, "9223372036854775806 1", math.MaxInt64, api.OK},
		{5, "9223372036854775807 1", 0, api.ErrFull},
		{5, "-9223372036854775807 -1/2", math.MinInt64, api.OK},
		{5, "-9223372036854775808 -1/2", 0, api.ErrFull},
		{5, "0 " + nines(1000), 0, api.ErrFull},
		{7, "0 -1 1", 1, api.OK},
		{4, "0 1000000000000000000", 1414213562373095048, api.OK},
	} {
		n, err := read(t, newField(t, c.level), c.text).Floor()
		if n != c.floor || err != c.err {
			t.Errorf("level %d: %.40s: %d, %d, want %d, %d", c.level, c.text, n, err, c.floor, c.err)
		}
	}
}

// P1.5: numerators and denominators that have just not, and just too many digits.
func TestFull(t *testing.T) {
	for _, c := range []struct {
		level      int
		name, x, y string
		want       string // empty for ErrFull
	}{
		{1, "Add", nines(1000), "-1", nines(999) + "8"},
		{1, "Add", nines(1000), "1", ""},
		{1, "Add", five(1000), five(1000), ""},
		{1, "Sub", "-" + nines(1000), "1", ""},
		{1, "Sub", "-" + nines(1000), "-" + nines(1000), "0"},
		{1, "Mul", ten(1000), "10", ""},
		{1, "Mul", ten(999), "10", ten(1000)},
		{1, "Mul", ten(1000), "1/10", ten(999)},
		{1, "Mul", "1/" + ten(999), "1/10", "1/" + ten(1000)},
		{1, "Mul", "1/" + ten(1000), "1/10", ""},
		{1, "Mul", ten(1000) + "/" + nines(1000), nines(1000) + "/" + ten(1000), "1"},
		{1, "Div", ten(1000), ten(1000), "1"},
		{1, "Div", ten(1000), "1/10", ""},
		{1, "Div", "1/" + ten(1000), "10", ""},
		{1, "Div", "1", "-" + nines(1000), "-1/" + nines(1000)},
		{1, "Add", "1/" + ten(1000), "1/" + nines(999), ""},
		{5, "Add", "0 " + nines(1000), "0 1", ""},
		{5, "Add", "0 1/" + ten(1000), "1/" + nines(1000) + " 0", "1/" + nines(1000) + " 1/" + ten(1000)},
		{5, "Mul", five(1000) + " " + five(1000), "0 1", ""},
		{5, "Mul", "4" + five(999) + " " + five(1000), "0 1", five(1000) + " 95" + strings.Repeat("0", 998)},
		{5, "Div", "1 0", "1/" + ten(1000) + " 0", ten(1000) + " 0"},
		// L by 1 + L is 1 by L, which is L - 1; and a + b L by L is b - a + a L.
		{5, "Div", "0 1", "1/" + ten(1000) + " 1/" + ten(1000), "-" + ten(1000) + " " + ten(1000)},
		{5, "Div", "0 10", "1/" + ten(1000) + " 1/" + ten(1000), ""},
		{5, "Div", "0 1/" + ten(1000), "1 1", "-1/" + ten(1000) + " 1/" + ten(1000)},
		{5, "Div", "0 1/" + ten(1000), "10 10", ""},
		{5, "Div", five(1000) + " -4" + nines(999), "0 1", "-" + nines(1000) + " " + five(1000)},
		{5, "Div", five(1000) + " -" + five(1000), "0 1", ""},
	} {
		f := newField(t, c.level)
		x, err := ways()[c.name](read(t, f, c.x), read(t, f, c.y))
		if c.want == "" {
			noNumber(t, c.name, x, err, api.ErrFull)
		} else if x.Text() != c.want || err != api.OK {
			t.Errorf("level %d: %s of %.20s and %.20s: %.40s, %d", c.level, c.name, c.x, c.y, x.Text(), err)
		}
	}
}
