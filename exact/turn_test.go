package exact

import (
	"math"
	"math/big"
	"math/rand"
	"reflect"
	"testing"

	"barleycorn/api"
)

// gauss is a turning number of math/big.
type gauss struct{ x, y *big.Rat }

func (a gauss) plus(b gauss) gauss {
	return gauss{new(big.Rat).Add(a.x, b.x), new(big.Rat).Add(a.y, b.y)}
}

func (a gauss) times(b gauss) gauss {
	product := func(x, y *big.Rat) *big.Rat { return new(big.Rat).Mul(x, y) }
	return gauss{new(big.Rat).Sub(product(a.x, b.x), product(a.y, b.y)), new(big.Rat).Add(product(a.x, b.y), product(a.y, b.x))}
}

func (a gauss) norm() *big.Rat { return a.times(gauss{a.x, new(big.Rat).Neg(a.y)}).x }

func (a gauss) inverse() gauss {
	n := a.norm()
	return gauss{new(big.Rat).Quo(a.x, n), new(big.Rat).Quo(new(big.Rat).Neg(a.y), n)}
}

// power multiplies n times.
func (a gauss) power(n int) gauss {
	if n < 0 {
		return a.inverse().power(-n)
	}
	result := gauss{big.NewRat(1, 1), new(big.Rat)}
	for range n {
		result = result.times(a)
	}
	return result
}

// gaussOf returns the number of math/big that a turning number is.
func gaussOf(t *testing.T, a api.Turn) gauss {
	t.Helper()
	return gauss{rat(t, a.X), rat(t, a.Y)}
}

// sameTurn reports results that are not those of math/big.
func sameTurn(t *testing.T, got api.Turn, e api.Errno, want gauss) {
	t.Helper()
	x, f := fromRat(t, want.x)
	y, g := fromRat(t, want.y)
	expected := api.Turn{X: x, Y: y}
	if f == api.ErrLarge || g == api.ErrLarge {
		f, expected = api.ErrLarge, api.Turn{}
	}
	if e != f || !reflect.DeepEqual(got, expected) {
		t.Fatalf("%v %d, want %v %d", got, e, expected, f)
	}
}

// randomTurn returns a turning number, often with a part 0.
func randomTurn(t *testing.T, r *rand.Rand, digits int) api.Turn {
	t.Helper()
	a := api.Turn{X: randomFrac(t, r, digits), Y: randomFrac(t, r, digits)}
	switch r.Intn(6) {
	case 0:
		a.X = FromInt(0)
	case 1:
		a.Y = FromInt(0)
	}
	return a
}

// TestTurnOperations: P1.4 and P1.7, results against math/big.
func TestTurnOperations(t *testing.T) {
	r := rand.New(rand.NewSource(7))
	for range 600 {
		digits := []int{1, 2, 9, 40, 90, 180, 360}[r.Intn(7)]
		a, b := randomTurn(t, r, digits), randomTurn(t, r, digits)
		x, y := gaussOf(t, a), gaussOf(t, b)
		got, e := AddTurn(a, b)
		sameTurn(t, got, e, x.plus(y))
		got, e = MulTurn(a, b)
		sameTurn(t, got, e, x.times(y))
		got, e = DivTurn(a, b)
		if y.norm().Sign() == 0 {
			if e != api.ErrZero || !reflect.DeepEqual(got, api.Turn{}) {
				t.Fatal(a, b, got, e)
			}
		} else {
			sameTurn(t, got, e, x.times(y.inverse()))
		}
		n, e := Norm(a)
		want, f := fromRat(t, x.norm())
		if e != f || !reflect.DeepEqual(n, want) {
			t.Fatal(a, n, e, want, f)
		}
	}
}

// TestTurnErrors: P1.4, ErrFrac first, then the others.
func TestTurnErrors(t *testing.T) {
	one, zero := turn(t, "1", "0"), turn(t, "0", "0")
	for name, bad := range badFracs() {
		for _, a := range []api.Turn{{X: bad, Y: one.X}, {X: one.X, Y: bad}, {X: bad, Y: bad}} {
			errors := []api.Errno{CheckTurn(a), second(AddTurn(a, one)), second(AddTurn(one, a)), second(MulTurn(a, one)), second(MulTurn(one, a)),
				second(DivTurn(a, zero)), second(DivTurn(zero, a)), second(Power(a, 65)), second(Power(a, 0)), second(Power(a, -1)), second(Norm(a))}
			for i, e := range errors {
				if e != api.ErrFrac {
					t.Errorf("%s, call %d: %d", name, i, e)
				}
			}
		}
	}
	if e := CheckTurn(zero); e != api.OK {
		t.Error(e)
	}
	if a, e := DivTurn(one, zero); e != api.ErrZero || !reflect.DeepEqual(a, api.Turn{}) {
		t.Error(a, e)
	}
	most := turn(t, nines(360), "0")
	for i, e := range []api.Errno{second(AddTurn(most, one)), second(MulTurn(most, most)), second(DivTurn(one, turn(t, nines(360), "1"))), second(Power(most, 2)), second(Power(most, -2)), second(Norm(most)),
		second(AddTurn(turn(t, "0", nines(360)), turn(t, "0", "1"))), second(Norm(turn(t, "0", "1/"+tenTo(180))))} {
		if e != api.ErrLarge {
			t.Error(i, e)
		}
	}
	for i, e := range []api.Errno{second(AddTurn(most, turn(t, "-1", nines(360)))), second(MulTurn(most, turn(t, "0", "-1"))), second(DivTurn(most, most)), second(Power(most, 1)), second(Power(most, -1)), second(Norm(turn(t, "0", "1/"+tenTo(179))))} {
		if e != api.OK {
			t.Error(i, e)
		}
	}
}

// TestPower: P1.4, each power against as many products, and the errors in their order.
func TestPower(t *testing.T) {
	for _, s := range [][2]string{{"1", "1"}, {"0", "2"}, {"0", "1"}, {"-1", "0"}, {"1/2", "-1/2"}, {"3/5", "4/5"}, {"2/3", "-7/5"}, {"1/1000", "30"}, {"-123456789/1000000", "0"}} {
		a := turn(t, s[0], s[1])
		for n := -api.MaxPower; n <= api.MaxPower; n++ {
			got, e := Power(a, n)
			sameTurn(t, got, e, gaussOf(t, a).power(n))
		}
	}
	zero, one := turn(t, "0", "0"), turn(t, "1", "0")
	for n, want := range map[int]api.Errno{0: api.OK, 1: api.OK, 64: api.OK, -1: api.ErrZero, -64: api.ErrZero, -65: api.ErrArg, 65: api.ErrArg, math.MinInt: api.ErrArg, math.MaxInt: api.ErrArg} {
		got, e := Power(zero, n)
		expected := zero
		switch {
		case want != api.OK:
			expected = api.Turn{}
		case n == 0:
			expected = one
		}
		if e != want || !reflect.DeepEqual(got, expected) {
			t.Error(n, got, e)
		}
	}
	for _, n := range []int{65, -65, math.MaxInt, math.MinInt} {
		if got, e := Power(one, n); e != api.ErrArg || !reflect.DeepEqual(got, api.Turn{}) {
			t.Error(n, got, e)
		}
	}
	// The square of a large number is small if its den is as large, and the parts cancel.
	large := turn(t, nines(360)+"/"+nines(359)+"8", "0")
	if _, e := Power(large, 64); e != api.ErrLarge {
		t.Error(e)
	}
}

// TestAround: P1.4, the examples, the ends of int, and the norm.
func TestAround(t *testing.T) {
	for _, x := range []struct {
		num, den int
		want     string
	}{{1, 2, "3/5 4/5"}, {1, 1, "0 1"}, {1, 0, "-1 0"}, {0, 5, "1 0"}, {0, -5, "1 0"}, {-1, 1, "0 -1"}, {-1, 2, "3/5 -4/5"}, {2, 4, "3/5 4/5"}, {math.MinInt, math.MinInt, "0 1"}, {math.MinInt, 0, "-1 0"}} {
		a, e := Around(x.num, x.den)
		if got := turnText(t, must(t, a, e)); got != x.want {
			t.Errorf("%d %d: %s", x.num, x.den, got)
		}
	}
	if a, e := Around(0, 0); e != api.ErrZero || !reflect.DeepEqual(a, api.Turn{}) {
		t.Error(a, e)
	}
	ends := []int{math.MinInt, math.MinInt + 1, -3, 1, 7, 1 << 62, math.MaxInt - 1, math.MaxInt}
	for _, num := range ends {
		for _, den := range ends {
			a, e := Around(num, den)
			x := gauss{new(big.Rat).SetInt64(int64(den)), new(big.Rat).SetInt64(int64(num))}
			below := gauss{x.x, new(big.Rat).Neg(x.y)}
			sameTurn(t, a, e, x.times(below.inverse()))
			n, e := Norm(a)
			if got := text(t, must(t, n, e)); got != "1" {
				t.Error(num, den, got)
			}
		}
	}
}

// TestTurnExamples: P1.4, the rows of the examples.
func TestTurnExamples(t *testing.T) {
	a, e := MulTurn(turn(t, "1", "2"), turn(t, "3", "-1"))
	if got := turnText(t, must(t, a, e)); got != "5 5" {
		t.Error(got)
	}
	a, e = DivTurn(turn(t, "5", "5"), turn(t, "3", "-1"))
	if got := turnText(t, must(t, a, e)); got != "1 2" {
		t.Error(got)
	}
	a, e = Power(turn(t, "1", "1"), 4)
	if got := turnText(t, must(t, a, e)); got != "-4 0" {
		t.Error(got)
	}
	a, e = Power(turn(t, "0", "2"), -2)
	if got := turnText(t, must(t, a, e)); got != "-1/4 0" {
		t.Error(got)
	}
}

// TestRulesOfTurns: P1.7, sums and products in any order, Div undoes Mul, and the norm of a product.
func TestRulesOfTurns(t *testing.T) {
	r := rand.New(rand.NewSource(8))
	add := func(a, b api.Turn) api.Turn { c, e := AddTurn(a, b); return must(t, c, e) }
	mul := func(a, b api.Turn) api.Turn { c, e := MulTurn(a, b); return must(t, c, e) }
	norm := func(a api.Turn) api.Frac { c, e := Norm(a); return must(t, c, e) }
	for range 200 {
		a, b, c := randomTurn(t, r, 1+r.Intn(20)), randomTurn(t, r, 1+r.Intn(20)), randomTurn(t, r, 1+r.Intn(20))
		product, e := Mul(norm(a), norm(b))
		for name, pair := range map[string][2]any{
			"sums in any order":     {add(a, b), add(b, a)},
			"sums of sums":          {add(add(a, b), c), add(a, add(b, c))},
			"products in any order": {mul(a, b), mul(b, a)},
			"products of products":  {mul(mul(a, b), c), mul(a, mul(b, c))},
			"products of sums":      {mul(a, add(b, c)), add(mul(a, b), mul(a, c))},
			"norm of a product":     {norm(mul(a, b)), must(t, product, e)},
		} {
			if !reflect.DeepEqual(pair[0], pair[1]) {
				t.Fatal(name, pair)
			}
		}
		if gaussOf(t, b).norm().Sign() != 0 {
			if d, e := DivTurn(mul(a, b), b); e != api.OK || !reflect.DeepEqual(d, a) {
				t.Fatal("DivTurn undoes MulTurn", a, b, d, e)
			}
		}
	}
}
