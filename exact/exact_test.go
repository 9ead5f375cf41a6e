package exact

import (
	"math"
	"math/big"
	"math/rand"
	"reflect"
	"testing"

	"barleycorn/api"
)

// TestCheckFrac: P1.1, which fractions are valid.
func TestCheckFrac(t *testing.T) {
	for name, a := range badFracs() {
		if e := CheckFrac(a); e != api.ErrFrac {
			t.Errorf("%s: %d", name, e)
		}
	}
	full := make([]uint32, api.MaxGroups)
	for i := range full {
		full[i] = 999999999
	}
	less := append([]uint32{999999998}, full[1:]...)
	one := []uint32{1}
	good := map[string]api.Frac{
		"0":               {Den: api.Whole{Groups: one}},
		"0, not nil":      {Num: api.Whole{Groups: []uint32{}}, Den: api.Whole{Groups: one}},
		"-1":              {Num: api.Whole{Neg: true, Groups: one}, Den: api.Whole{Groups: one}},
		"greatest num":    {Num: api.Whole{Groups: full}, Den: api.Whole{Groups: one}},
		"least":           {Num: api.Whole{Neg: true, Groups: full}, Den: api.Whole{Groups: one}},
		"greatest den":    {Num: api.Whole{Groups: one}, Den: api.Whole{Groups: full}},
		"neighbours":      {Num: api.Whole{Groups: full}, Den: api.Whole{Groups: less}},
		"two/ten to nine": {Num: api.Whole{Groups: []uint32{3}}, Den: api.Whole{Groups: []uint32{0, 1}}},
	}
	for name, a := range good {
		if e := CheckFrac(a); e != api.OK {
			t.Errorf("%s: %d", name, e)
		}
	}
}

// TestFracErrorFirst: P1.1, the functions with fractions return ErrFrac first.
func TestFracErrorFirst(t *testing.T) {
	good, zero := FromInt(3), FromInt(0)
	calls := map[string]func(a, b api.Frac) (any, api.Errno){
		"Compare": func(a, b api.Frac) (any, api.Errno) { n, e := Compare(a, b); return n, e },
		"Add":     func(a, b api.Frac) (any, api.Errno) { n, e := Add(a, b); return n, e },
		"Sub":     func(a, b api.Frac) (any, api.Errno) { n, e := Sub(a, b); return n, e },
		"Mul":     func(a, b api.Frac) (any, api.Errno) { n, e := Mul(a, b); return n, e },
		"Div":     func(a, b api.Frac) (any, api.Errno) { n, e := Div(a, b); return n, e },
	}
	for name, bad := range badFracs() {
		for call, f := range calls {
			for _, pair := range [][2]api.Frac{{bad, good}, {good, bad}, {bad, bad}, {bad, zero}} {
				if n, e := f(pair[0], pair[1]); e != api.ErrFrac || !reflect.ValueOf(n).IsZero() {
					t.Errorf("%s of %s: %v %d", call, name, n, e)
				}
			}
		}
		if n, e := Nearest(bad); e != api.ErrFrac || n != 0 {
			t.Errorf("Nearest of %s: %d %d", name, n, e)
		}
		if s, e := Text(bad); e != api.ErrFrac || s != "" {
			t.Errorf("Text of %s: %q %d", name, s, e)
		}
	}
}

// TestFromInt: P1.1, the row of the examples, and the ends of int.
func TestFromInt(t *testing.T) {
	want := api.Frac{Num: api.Whole{Neg: true, Groups: []uint32{234567890, 1}}, Den: api.Whole{Groups: []uint32{1}}}
	if got := FromInt(-1234567890); !reflect.DeepEqual(got, want) {
		t.Error(got)
	}
	for n, want := range map[int]string{
		0: "0", 1: "1", -1: "-1", 999999999: "999999999", 1000000000: "1000000000", -1000000001: "-1000000001",
		1000000000000000000: "1000000000000000000", math.MaxInt: "9223372036854775807", math.MinInt: "-9223372036854775808",
	} {
		if got := text(t, FromInt(n)); got != want {
			t.Errorf("%d gives %s", n, got)
		}
	}
}

// TestRatio: P1.1, signs, lowest terms, the ends of int, and a den 0.
func TestRatio(t *testing.T) {
	for _, x := range []struct {
		num, den int
		want     string
	}{
		{6, -4, "-3/2"}, {-6, -4, "3/2"}, {0, -5, "0"}, {0, math.MinInt, "0"}, {12, 4, "3"},
		{math.MinInt, -1, "9223372036854775808"}, {math.MinInt, math.MinInt, "1"},
		{math.MaxInt, math.MinInt, "-9223372036854775807/9223372036854775808"},
		{2, math.MinInt, "-1/4611686018427387904"}, {1, math.MinInt, "-1/9223372036854775808"},
	} {
		a, e := Ratio(x.num, x.den)
		if got := text(t, must(t, a, e)); got != x.want {
			t.Errorf("%d / %d gives %s", x.num, x.den, got)
		}
	}
	for _, num := range []int{0, 1, -7, math.MinInt} {
		if a, e := Ratio(num, 0); e != api.ErrZero || !reflect.DeepEqual(a, api.Frac{}) {
			t.Error(num, a, e)
		}
	}
}

// TestCompare: P1.1, numbers that are far from each other and next to each other.
func TestCompare(t *testing.T) {
	all := []string{"-" + nines(360), "-2", "-3/2", "-1/2", "-1/3", "-1/" + nines(360), "0", "1/" + nines(360),
		"1/1" + nines(359), "1/3", nines(359) + "7/" + nines(359) + "8", nines(359) + "8/" + nines(360), "1", nines(360)}
	for i, a := range all {
		for k, b := range all {
			got, e := Compare(frac(t, a), frac(t, b))
			if want := rat(t, frac(t, a)).Cmp(rat(t, frac(t, b))); e != api.OK || got != want {
				t.Errorf("%d %d: %d %d, want %d", i, k, got, e, want)
			}
		}
	}
}

// TestOperations: P1.2, results against math/big; ErrLarge exactly if a result is too large.
func TestOperations(t *testing.T) {
	r := rand.New(rand.NewSource(3))
	operations := map[string]struct {
		call func(a, b api.Frac) (api.Frac, api.Errno)
		big  func(z, x, y *big.Rat) *big.Rat
	}{
		"Add": {Add, (*big.Rat).Add}, "Sub": {Sub, (*big.Rat).Sub}, "Mul": {Mul, (*big.Rat).Mul}, "Div": {Div, (*big.Rat).Quo},
	}
	large := map[bool]int{}
	for range 1500 {
		digits := []int{3, 12, 40, 182, 360}[r.Intn(5)]
		a, b := randomFrac(t, r, digits), randomFrac(t, r, digits)
		x, y := rat(t, a), rat(t, b)
		for name, o := range operations {
			got, e := o.call(a, b)
			if name == "Div" && y.Sign() == 0 {
				if e != api.ErrZero || !reflect.DeepEqual(got, api.Frac{}) {
					t.Fatal(name, a, b, got, e)
				}
				continue
			}
			want, f := fromRat(t, o.big(new(big.Rat), x, y))
			if e != f || !reflect.DeepEqual(got, want) {
				t.Fatalf("%s of %s and %s gives %v %d, want %v %d", name, x, y, got, e, want, f)
			}
			large[e == api.ErrLarge]++
		}
	}
	if large[true] == 0 || large[false] == 0 {
		t.Error(large)
	}
}

// TestLarge: P1.2, results just at MaxGroups and just above (which want no text).
func TestLarge(t *testing.T) {
	type operation func(a, b api.Frac) (api.Frac, api.Errno)
	most, least := nines(360), "1/"+nines(360)
	for _, x := range []struct {
		call       operation
		a, b, want string
	}{
		{Add, most, "1", ""}, {Add, "-" + most, "-1", ""}, {Add, least, "1/2", ""}, {Add, most, "1/2", ""},
		{Sub, "-" + most, "1", ""}, {Sub, most, "-1", ""}, {Sub, least, "1/2", ""},
		{Mul, most, "2", ""}, {Mul, "-" + most, "2", ""}, {Mul, least, "1/2", ""}, {Mul, most, most, ""}, {Mul, least, least, ""},
		{Mul, tenTo(180), tenTo(180), ""}, {Mul, "1/" + tenTo(180), "1/" + tenTo(180), ""},
		{Div, most, "1/2", ""}, {Div, least, "2", ""}, {Div, most, least, ""},
		{Add, most, "-1", nines(359) + "8"}, {Add, nines(359) + "8", "1", most}, {Add, least, "-" + least, "0"}, {Add, most, "0", most},
		{Sub, most, "1", nines(359) + "8"}, {Sub, most, most, "0"}, {Sub, least, "0", least},
		{Mul, most, least, "1"}, {Mul, most, "1", most}, {Mul, nines(359) + "8", "1/2", "4" + nines(359)}, {Mul, "0", least, "0"},
		{Mul, tenTo(180), tenTo(179), tenTo(359)}, {Mul, "1/" + tenTo(180), "1/" + tenTo(179), "1/" + tenTo(359)},
		{Div, most, most, "1"}, {Div, "1", most, least}, {Div, "-1", least, "-" + most}, {Div, "0", most, "0"},
	} {
		got, e := x.call(frac(t, x.a), frac(t, x.b))
		switch {
		case x.want == "" && (e != api.ErrLarge || !reflect.DeepEqual(got, api.Frac{})):
			t.Errorf("%.20s... and %.20s... give %v %d", x.a, x.b, got, e)
		case x.want != "" && text(t, must(t, got, e)) != x.want:
			t.Errorf("%.20s... and %.20s... give %s", x.a, x.b, text(t, got))
		}
	}
}

// TestNearest: P1.2, halves go up, and the bounds of 2^62.
func TestNearest(t *testing.T) {
	const most = 1 << 62
	for s, want := range map[string]int{
		"5/2": 3, "-5/2": -2, "-8/3": -3, "0": 0, "1/2": 1, "-1/2": 0, "1/3": 0, "-1/3": 0, "2/3": 1, "-2/3": -1, "-7/2": -3, "7/2": 4,
		"1/" + nines(360): 0, "-1/" + nines(360): 0, nines(360) + "/" + nines(359) + "8": 1,
		"4611686018427387904": most, "-4611686018427387904": -most,
		"13835058055282163713/3": most, "-13835058055282163713/3": -most, "-9223372036854775809/2": -most, "9223372036854775807/2": most,
		"9223372036854775805/2": most - 1,
	} {
		if n, e := Nearest(frac(t, s)); n != want || e != api.OK {
			t.Errorf("%s gives %d %d, want %d", s, n, e, want)
		}
	}
	for _, s := range []string{"4611686018427387905", "-4611686018427387905", "9223372036854775809/2", "-9223372036854775811/2",
		"-18446744073709551616", "18446744073709551616", "36893488147419103232", nines(360), "-" + nines(360)} {
		if n, e := Nearest(frac(t, s)); n != 0 || e != api.ErrLarge {
			t.Errorf("%s gives %d %d", s, n, e)
		}
	}
}

// TestNearestIsNear: P1.8, a fraction and the nearest whole number differ by a half at most, and not by a half upwards.
func TestNearestIsNear(t *testing.T) {
	r := rand.New(rand.NewSource(4))
	half := big.NewRat(1, 2)
	for range 2000 {
		a := randomFrac(t, r, 1+r.Intn(17))
		n, e := Nearest(a)
		if e != api.OK && e != api.ErrLarge {
			t.Fatal(a, e)
		}
		apart := new(big.Rat).Sub(rat(t, FromInt(n)), rat(t, a))
		if e == api.OK && (apart.Cmp(half) > 0 || apart.Cmp(new(big.Rat).Neg(half)) <= 0) {
			t.Fatal(text(t, a), n)
		}
	}
}

// TestRulesOfFractions: P1.7, for fractions that are not too large with all that is made of them.
func TestRulesOfFractions(t *testing.T) {
	r := rand.New(rand.NewSource(5))
	add := func(a, b api.Frac) api.Frac { c, e := Add(a, b); return must(t, c, e) }
	sub := func(a, b api.Frac) api.Frac { c, e := Sub(a, b); return must(t, c, e) }
	mul := func(a, b api.Frac) api.Frac { c, e := Mul(a, b); return must(t, c, e) }
	for range 300 {
		a, b, c := randomFrac(t, r, 1+r.Intn(100)), randomFrac(t, r, 1+r.Intn(100)), randomFrac(t, r, 1+r.Intn(100))
		for name, pair := range map[string][2]api.Frac{
			"sums in any order":     {add(a, b), add(b, a)},
			"sums of sums":          {add(add(a, b), c), add(a, add(b, c))},
			"products in any order": {mul(a, b), mul(b, a)},
			"products of products":  {mul(mul(a, b), c), mul(a, mul(b, c))},
			"products of sums":      {mul(a, add(b, c)), add(mul(a, b), mul(a, c))},
			"Sub undoes Add":        {sub(add(a, b), b), a},
			"0":                     {sub(a, a), FromInt(0)},
			"1 times":               {mul(a, FromInt(1)), a},
		} {
			if !reflect.DeepEqual(pair[0], pair[1]) {
				t.Fatal(name, pair)
			}
		}
		if len(b.Num.Groups) > 0 {
			if d, e := Div(mul(a, b), b); e != api.OK || !reflect.DeepEqual(d, a) {
				t.Fatal("Div undoes Mul", a, b, d, e)
			}
		}
	}
}
