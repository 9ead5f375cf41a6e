package exact

import (
	"math/big"
	"math/rand"
	"reflect"
	"strings"
	"testing"

	"barleycorn/api"
)

// bigPoly is a polynomial of math/big; its last coefficient is not 0.
type bigPoly []*big.Rat

func (p bigPoly) trimmed() bigPoly {
	for len(p) > 0 && p[len(p)-1].Sign() == 0 {
		p = p[:len(p)-1]
	}
	return p
}

func (p bigPoly) plus(q bigPoly) bigPoly {
	sum := make(bigPoly, max(len(p), len(q)))
	for i := range sum {
		sum[i] = new(big.Rat)
		if i < len(p) {
			sum[i].Add(sum[i], p[i])
		}
		if i < len(q) {
			sum[i].Add(sum[i], q[i])
		}
	}
	return sum.trimmed()
}

func (p bigPoly) times(q bigPoly) bigPoly {
	product := make(bigPoly, len(p)+len(q))
	for i := range product {
		product[i] = new(big.Rat)
	}
	for i, a := range p {
		for k, b := range q {
			product[i+k].Add(product[i+k], new(big.Rat).Mul(a, b))
		}
	}
	return product.trimmed()
}

func (p bigPoly) negated() bigPoly { return p.times(bigPoly{big.NewRat(-1, 1)}) }

// over returns the quotient and the rest.
func (p bigPoly) over(q bigPoly) (quotient, rest bigPoly) {
	for rest = p; len(rest) >= len(q); {
		part := make(bigPoly, len(rest)-len(q)+1)
		for i := range part {
			part[i] = new(big.Rat)
		}
		part[len(part)-1].Quo(rest[len(rest)-1], q[len(q)-1])
		quotient, rest = quotient.plus(part), rest.plus(part.times(q).negated())
	}
	return quotient, rest
}

func (p bigPoly) value(x *big.Rat) *big.Rat {
	value := new(big.Rat)
	for i := len(p) - 1; i >= 0; i-- {
		value.Add(value.Mul(value, x), p[i])
	}
	return value
}

// gcd returns the greatest common divisor by Euclid's algorithm.
func (p bigPoly) gcd(q bigPoly) bigPoly {
	for len(q) > 0 {
		_, rest := p.over(q)
		p, q = q, rest
	}
	if len(p) == 0 {
		return nil
	}
	monic, _ := p.over(bigPoly{p[len(p)-1]})
	return monic
}

// bigPolyOf returns the polynomial of math/big that a polynomial is.
func bigPolyOf(t *testing.T, p []api.Frac) bigPoly {
	t.Helper()
	var q bigPoly
	for _, a := range p {
		q = append(q, rat(t, a))
	}
	return q
}

// samePoly reports results that are not those of math/big.
func samePoly(t *testing.T, what string, got []api.Frac, e api.Errno, want bigPoly) {
	t.Helper()
	expected := []api.Frac(nil)
	f := api.OK
	if len(want) > api.MaxCoefs {
		f = api.ErrLarge
	}
	for _, a := range want {
		c, g := fromRat(t, a)
		f = max(f, g)
		expected = append(expected, c)
	}
	if f != api.OK {
		expected = nil
	}
	if e != f || len(got) != len(expected) || len(got) > 0 && !reflect.DeepEqual(got, expected) {
		t.Fatalf("%s: %v %d, want %v %d", what, got, e, expected, f)
	}
}

// TestCheckPoly: P1.5, lengths at MaxCoefs and above, coefficients that are not valid, and a last one that is 0.
func TestCheckPoly(t *testing.T) {
	ones := func(n int) []api.Frac {
		p := make([]api.Frac, n)
		for i := range p {
			p[i] = FromInt(1)
		}
		return p
	}
	for _, p := range [][]api.Frac{nil, {}, ones(1), ones(api.MaxCoefs), {FromInt(0), FromInt(1)}} {
		if e := CheckPoly(p); e != api.OK {
			t.Error(len(p), e)
		}
	}
	tooMany := [][]api.Frac{ones(api.MaxCoefs + 1), make([]api.Frac, api.MaxCoefs+1), make([]api.Frac, 100000)}
	for _, p := range tooMany {
		if e := CheckPoly(p); e != api.ErrMany {
			t.Error(len(p), e)
		}
	}
	bad := [][]api.Frac{{FromInt(0)}, {FromInt(1), FromInt(0)}, make([]api.Frac, api.MaxCoefs), append(ones(api.MaxCoefs-1), FromInt(0))}
	for _, a := range badFracs() {
		bad = append(bad, []api.Frac{a}, []api.Frac{a, FromInt(1)}, []api.Frac{FromInt(1), a}, append(ones(api.MaxCoefs-1), a))
	}
	for _, p := range bad {
		if e := CheckPoly(p); e != api.ErrFrac {
			t.Error(p, e)
		}
	}
	checkPolyErrorsFirst(t, tooMany[0], bad)
}

// checkPolyErrorsFirst: P1.5, CheckPoly's error of p, then of q, then CheckFrac's, before all others.
func checkPolyErrorsFirst(t *testing.T, long []api.Frac, bad [][]api.Frac) {
	t.Helper()
	one, no := []api.Frac{FromInt(1)}, api.Frac{}
	pairs := map[string]func(p, q []api.Frac) api.Errno{
		"AddPoly": func(p, q []api.Frac) api.Errno { return second(AddPoly(p, q)) },
		"MulPoly": func(p, q []api.Frac) api.Errno { return second(MulPoly(p, q)) },
		"DivPoly": func(p, q []api.Frac) api.Errno { return third(DivPoly(p, q)) },
		"Gcd":     func(p, q []api.Frac) api.Errno { return second(Gcd(p, q)) },
	}
	for _, p := range bad {
		for name, call := range pairs {
			got := []api.Errno{call(p, one), call(one, p), call(p, long), call(long, p), call(p, nil), call(nil, p), call(long, nil), call(nil, long)}
			want := []api.Errno{api.ErrFrac, api.ErrFrac, api.ErrFrac, api.ErrMany, api.ErrFrac, api.ErrFrac, api.ErrMany, api.ErrMany}
			if !reflect.DeepEqual(got, want) {
				t.Error(name, p, got)
			}
		}
		got := []api.Errno{second(Value(p, one[0])), second(Value(long, no)), second(Value(p, no)), second(Roots(p)), second(Roots(long)), second(RootsIn(p, no, no)), second(RootsIn(long, no, no))}
		want := []api.Errno{api.ErrFrac, api.ErrMany, api.ErrFrac, api.ErrFrac, api.ErrMany, api.ErrFrac, api.ErrMany}
		if !reflect.DeepEqual(got, want) {
			t.Error(p, got)
		}
	}
	for name, a := range badFracs() {
		got := []api.Errno{second(Value(nil, a)), second(Value(one, a)), second(RootsIn(nil, a, one[0])), second(RootsIn(nil, one[0], a)), second(RootsIn(one, a, one[0])), second(RootsIn(one, one[0], a))}
		for i, e := range got {
			if e != api.ErrFrac {
				t.Error(name, i, e)
			}
		}
	}
}

// TestPolynomials: P1.5 and P1.10, results against math/big.
func TestPolynomials(t *testing.T) {
	r := rand.New(rand.NewSource(9))
	for range 500 {
		coefs, digits := 1+r.Intn(9), []int{1, 2, 5, 30, 100, 360}[r.Intn(6)]
		p, q := randomPoly(t, r, coefs, digits), randomPoly(t, r, coefs, digits)
		x := randomFrac(t, r, 1+r.Intn(40))
		a, b := bigPolyOf(t, p), bigPolyOf(t, q)
		got, e := AddPoly(p, q)
		samePoly(t, "AddPoly", got, e, a.plus(b))
		got, e = MulPoly(p, q)
		samePoly(t, "MulPoly", got, e, a.times(b))
		value, e := Value(p, x)
		if want, f := fromRat(t, a.value(rat(t, x))); e != f || !reflect.DeepEqual(value, want) {
			t.Fatal("Value", p, x, value, e, want, f)
		}
		got, e = Gcd(p, q)
		samePoly(t, "Gcd", got, e, a.gcd(b))
		checkQuotient(t, p, q)
	}
}

// checkQuotient holds DivPoly against math/big.
func checkQuotient(t *testing.T, p, q []api.Frac) {
	t.Helper()
	quotient, rest, e := DivPoly(p, q)
	if len(q) == 0 {
		if e != api.ErrZero || len(quotient)+len(rest) > 0 {
			t.Fatal(p, quotient, rest, e)
		}
		return
	}
	wantQuotient, wantRest := bigPolyOf(t, p).over(bigPolyOf(t, q))
	for _, a := range append(append(bigPoly{}, wantQuotient...), wantRest...) {
		if _, f := fromRat(t, a); f == api.ErrLarge {
			if e != api.ErrLarge || len(quotient)+len(rest) > 0 {
				t.Fatal(p, q, quotient, rest, e)
			}
			return
		}
	}
	samePoly(t, "quotient", quotient, e, wantQuotient)
	samePoly(t, "rest", rest, e, wantRest)
}

// TestPolyExamples: P1.5, the rows of the examples, and polynomials that are 0.
func TestPolyExamples(t *testing.T) {
	for _, x := range [][4]string{
		{"-1 0 0 1", "-1 1", "1 1 1", ""}, {"1 0 1", "1 2", "-1/4 1/2", "5/4"}, {"", "1 2", "", ""}, {"1", "1 2", "", "1"}, {"1 2", "3", "1/3 2/3", ""}, {"0 0 1", "0 0 0 1", "", "0 0 1"},
	} {
		quotient, rest, e := DivPoly(polyOf(t, x[0]), polyOf(t, x[1]))
		if got := [2]string{polyText(t, quotient), polyText(t, rest)}; e != api.OK || got != [2]string{x[2], x[3]} {
			t.Error(x, got, e)
		}
	}
	for _, x := range [][3]string{{"-1 0 1", "1 2 1", "1 1"}, {"", "", ""}, {"", "2 4", "1/2 1"}, {"2 4", "", "1/2 1"}, {"7", "", "1"}, {"7", "-1/3", "1"}, {"3 6", "5", "1"}, {"0 0 2", "0 3", "0 1"}} {
		g, e := Gcd(polyOf(t, x[0]), polyOf(t, x[1]))
		if got := polyText(t, must(t, g, e)); got != x[2] {
			t.Error(x, got)
		}
	}
	for _, q := range []string{"", "1", "-1 0 3"} {
		sum, e := AddPoly(polyOf(t, q), nil)
		product, f := MulPoly(nil, polyOf(t, q))
		if polyText(t, must(t, sum, e)) != q || len(must(t, product, f)) > 0 {
			t.Error(q, sum, product)
		}
	}
	p := polyOf(t, "1 -2/3 5")
	minus, e := MulPoly(p, polyOf(t, "-1"))
	sum, f := AddPoly(p, must(t, minus, e))
	if len(must(t, sum, f)) > 0 {
		t.Error(sum)
	}
	value, e := Value(nil, frac(t, "5/7"))
	if got := text(t, must(t, value, e)); got != "0" {
		t.Error(got)
	}
}

// TestLargePolys: P1.5, results just at MaxCoefs and MaxGroups and just above, and large numbers on the way to small results.
func TestLargePolys(t *testing.T) {
	power := func(n int) []api.Frac { return polyOf(t, strings.Repeat("0 ", n)+"1") }
	for i := range 65 {
		if p, e := MulPoly(power(i), power(64-i)); e != api.OK || len(p) != api.MaxCoefs {
			t.Error(i, p, e)
		}
		if p, e := MulPoly(power(i), power(min(65-i, 64))); i > 0 && (e != api.ErrLarge || len(p) > 0) {
			t.Error(i, p, e)
		}
	}
	if p, e := MulPoly(power(64), nil); e != api.OK || len(p) > 0 {
		t.Error(p, e)
	}
	most, half := nines(360), tenTo(180)
	for i, e := range []api.Errno{
		second(AddPoly(polyOf(t, "5 "+most+" 1"), polyOf(t, "5 1"))),
		second(MulPoly(polyOf(t, most), polyOf(t, "1 2"))),
		second(Value(polyOf(t, "1 1"), frac(t, most))),
		second(Value(polyOf(t, "0 0 1"), frac(t, half))),
		second(Gcd(polyOf(t, half+" 1/"+half), nil)),
		second(Gcd(nil, polyOf(t, most+" 1/2"))),
		second(Gcd(polyOf(t, half+" 1/"+half), polyOf(t, half+" 1/"+half))),
		third(DivPoly(polyOf(t, most), polyOf(t, "1/2"))),
		third(DivPoly(polyOf(t, "0 0 1"), polyOf(t, half+" 1"))),
	} {
		if e != api.ErrLarge {
			t.Error(i, e)
		}
	}
	for i, e := range []api.Errno{
		second(AddPoly(polyOf(t, "5 "+most+" 1"), polyOf(t, "5 -1"))),
		second(MulPoly(polyOf(t, most), polyOf(t, "1 -1"))),
		second(Value(polyOf(t, "0 1"), frac(t, most))),
		second(Gcd(polyOf(t, "1 "+half), nil)),
		third(DivPoly(polyOf(t, most), polyOf(t, "1"))),
	} {
		if e != api.OK {
			t.Error(i, e)
		}
	}
	// x^64 at 10^180 is large; less 10^180 times x^63 it is 0.
	p := polyOf(t, strings.Repeat("0 ", 63)+"-"+tenTo(180)+" 1")
	value, e := Value(p, frac(t, tenTo(180)))
	if got := text(t, must(t, value, e)); got != "0" {
		t.Error(got)
	}
	quotient, rest, e := DivPoly(p, polyOf(t, "-"+tenTo(180)+" 1"))
	if e != api.OK || len(quotient) != 64 || len(rest) > 0 {
		t.Error(quotient, rest, e)
	}
}

// TestGcdOfProducts: P1.10, what two products have in common divides both, and all that divides both divides it.
func TestGcdOfProducts(t *testing.T) {
	r := rand.New(rand.NewSource(10))
	for range 300 {
		digits := []int{1, 3, 25}[r.Intn(3)]
		common, p, q := randomPoly(t, r, 6, digits), randomPoly(t, r, 6, digits), randomPoly(t, r, 6, digits)
		left, e := MulPoly(common, p)
		must(t, left, e)
		right, e := MulPoly(common, q)
		must(t, right, e)
		g, e := Gcd(left, right)
		samePoly(t, "Gcd", g, e, bigPolyOf(t, left).gcd(bigPolyOf(t, right)))
		if len(g) == 0 {
			continue
		}
		for _, x := range [][2][]api.Frac{{left, g}, {right, g}, {g, common}} {
			if len(x[1]) == 0 {
				continue
			}
			if _, rest, e := DivPoly(x[0], x[1]); e != api.OK && e != api.ErrLarge || len(rest) > 0 {
				t.Fatal(x, rest, e)
			}
		}
	}
}

// TestUnluckyPrimes: P1.10, polynomials that have more in common modulo the first primes than they really have.
func TestUnluckyPrimes(t *testing.T) {
	product := big.NewInt(1)
	count := 0
	for m := range primes() {
		product.Mul(product, new(big.Int).SetUint64(uint64(m)))
		if count++; count == 5 {
			break
		}
	}
	p := polyOf(t, "1 3 1")
	q, e := AddPoly(p, polyOf(t, product.String()))
	for _, x := range []struct {
		p, q []api.Frac
		want string
	}{
		{p, must(t, q, e), "1"},
		{polyOf(t, "1 "+product.String()), polyOf(t, "1 "+product.String()), "1/" + product.String() + " 1"},
		{polyOf(t, "0 "+product.String()), polyOf(t, "0 1 1"), "0 1"},
		{polyOf(t, "0 1/"+product.String()), polyOf(t, "0 1 1"), "0 1"},
	} {
		g, e := Gcd(x.p, x.q)
		if got := polyText(t, must(t, g, e)); got != x.want {
			t.Error(got, x.want)
		}
		linear := polyOf(t, "5/7 1")
		left, e := MulPoly(x.p, linear)
		right, f := MulPoly(linear, x.q)
		g, h := Gcd(must(t, left, e), must(t, right, f))
		samePoly(t, "Gcd", g, h, bigPolyOf(t, left).gcd(bigPolyOf(t, right)))
	}
}

// TestUnluckyPrimeBetween: P1.10, a prime that shows too much after others have shown the right degree.
func TestUnluckyPrimeBetween(t *testing.T) {
	var second prime
	for m := range primes() {
		if second = m; m != firstPrime {
			break
		}
	}
	p := polyOf(t, "1 3 1")
	q, e := AddPoly(p, []api.Frac{FromInt(int(second))})
	must(t, q, e)
	common := polyOf(t, nines(40)+"/7 0 1")
	g, e := Gcd(product(t, p, common), product(t, q, common))
	if got := polyText(t, must(t, g, e)); got != polyText(t, common) {
		t.Error(got)
	}
	// The chain of x^2 * m - 1 modulo m would be that of another degree.
	for _, m := range []prime{firstPrime, second} {
		if got := rootCount(t, []api.Frac{FromInt(-1), FromInt(0), FromInt(int(m))}); got != 2 {
			t.Error(m, got)
		}
	}
}

// firstPrime is the greatest prime below 2^62.
const firstPrime prime = 1<<62 - 57
