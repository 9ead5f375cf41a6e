package exact

import (
	"math/big"
	"math/rand"
	"reflect"
	"strings"
	"testing"

	"barleycorn/api"
)

// rootCount returns how many roots a polynomial has.
func rootCount(t *testing.T, p []api.Frac) int {
	t.Helper()
	n, e := Roots(p)
	return must(t, n, e)
}

// rootCountIn returns how many roots a polynomial has above lo and at most at hi.
func rootCountIn(t *testing.T, p []api.Frac, lo, hi string) int {
	t.Helper()
	n, e := RootsIn(p, frac(t, lo), frac(t, hi))
	return must(t, n, e)
}

// product returns the product of polynomials, which has to be small enough.
func product(t *testing.T, factors ...[]api.Frac) []api.Frac {
	t.Helper()
	p := []api.Frac{FromInt(1)}
	for _, q := range factors {
		next, e := MulPoly(p, q)
		p = must(t, next, e)
	}
	return p
}

// linear returns x - r.
func linear(t *testing.T, r api.Frac) []api.Frac {
	t.Helper()
	minus, e := Sub(FromInt(0), r)
	return []api.Frac{must(t, minus, e), FromInt(1)}
}

// TestRootExamples: P1.6, the rows of the examples, and others whose roots are plain.
func TestRootExamples(t *testing.T) {
	for p, want := range map[string]int{
		"-2 0 1": 2, "1 0 1": 0, "0 0 0 1": 1, "7": 0, "-1/3": 0, "0 1": 1, "-5 3": 1, "1 -2 1": 1, "2 -3 1": 2, "-4 0 5 0 -1": 4, "-2 0 0 1": 1, "0 -1 0 1": 3, "1 0 2 0 1": 0,
		"4 0 -4 0 1": 2, "-1 0 0 0 0 0 0 0 1": 2, "1 0 0 0 0 0 0 0 1": 0, "0 0 1 0 0 1": 2, "-6/7 1 1/1000000": 2,
	} {
		if got := rootCount(t, polyOf(t, p)); got != want {
			t.Errorf("%s has %d roots, want %d", p, got, want)
		}
	}
	for _, x := range []struct {
		p, lo, hi string
		want      int
	}{
		{"-2 0 1", "0", "3/2", 1}, {"-2 0 1", "3/2", "9", 0}, {"-1 0 1", "-1", "1", 1}, {"-1 0 1", "-2", "-1", 1}, {"-1 0 1", "-2", "1", 2}, {"-1 0 1", "1", "2", 0},
		{"-1 0 1", "1", "1", 0}, {"-1 0 1", "-1", "-1", 0}, {"-1 0 1", "0", "0", 0}, {"7", "-1", "1", 0}, {"0 1", "-1", "0", 1}, {"0 1", "0", "1", 0}, {"0 0 1", "-1", "0", 1},
		{"1 -2 1", "0", "1", 1}, {"1 -2 1", "1", "2", 0}, {"0 0 -1 1", "0", "1", 1}, {"0 0 -1 1", "-1", "0", 1}, {"-4 0 5 0 -1", "-1", "1", 1}, {"-4 0 5 0 -1", "0", "2", 2},
		{"-4 0 5 0 -1", "-" + nines(360), nines(360), 4}, {"-1 " + nines(360), "0", "1/" + nines(360), 1}, {"-1 " + nines(360), "1/" + nines(360), "1", 0},
	} {
		if got := rootCountIn(t, polyOf(t, x.p), x.lo, x.hi); got != x.want {
			t.Errorf("%s above %s up to %s has %d roots, want %d", x.p, x.lo, x.hi, got, x.want)
		}
	}
}

// TestRootErrors: P1.6, 0 before an empty range, which is no error if its ends are equal.
func TestRootErrors(t *testing.T) {
	for _, p := range [][]api.Frac{nil, {}} {
		if n, e := Roots(p); n != 0 || e != api.ErrNone {
			t.Error(n, e)
		}
	}
	line, more, less := "1 1", nines(360)+"/"+nines(359)+"8", nines(359)+"8/"+nines(360)
	for _, x := range []struct {
		p, lo, hi string
		want      api.Errno
	}{
		{"", "2", "1", api.ErrNone}, {"", "1", "2", api.ErrNone}, {"", "1", "1", api.ErrNone},
		{line, "2", "1", api.ErrArg}, {"7", "1/2", "1/3", api.ErrArg}, {line, "1", less, api.ErrArg}, {line, more, "1", api.ErrArg},
		{line, "1", "1", api.OK}, {line, "1", more, api.OK}, {line, less, "1", api.OK}, {"7", "0", "1", api.OK},
	} {
		if n, e := RootsIn(polyOf(t, x.p), frac(t, x.lo), frac(t, x.hi)); n != 0 || e != x.want {
			t.Errorf("%s above %.9s up to %.9s: %d %d, want %d", x.p, x.lo, x.hi, n, e, x.want)
		}
	}
}

// TestRootsOfProducts: P1.9, any roots, several times, and a factor without roots; ranges with their ends between the roots and at them.
func TestRootsOfProducts(t *testing.T) {
	r := rand.New(rand.NewSource(11))
	without := []string{"1", "-3", "1 0 1", "5 1 1", "1 0 0 0 2", "1/1000000 0 1", "-9 6 -2", "1 0 -1 0 1"}
	for range 400 {
		digits := []int{1, 1, 2, 8}[r.Intn(4)]
		roots := map[string]*big.Rat{}
		p := polyOf(t, without[r.Intn(len(without))])
		for range r.Intn(7) {
			x := randomFrac(t, r, digits)
			roots[text(t, x)] = rat(t, x)
			for range 1 + r.Intn(3) {
				p = product(t, p, linear(t, x))
			}
		}
		if got := rootCount(t, p); got != len(roots) {
			t.Fatalf("%s has %d roots, want %d", polyText(t, p), got, len(roots))
		}
		ends := []*big.Rat{randomRat(r, digits, digits), randomRat(r, digits+1, digits)}
		for _, x := range roots {
			ends = append(ends, x)
		}
		for _, lo := range ends {
			for _, hi := range ends {
				if lo.Cmp(hi) > 0 {
					continue
				}
				want := 0
				for _, x := range roots {
					if x.Cmp(lo) > 0 && x.Cmp(hi) <= 0 {
						want++
					}
				}
				if got := rootCountIn(t, p, lo.RatString(), hi.RatString()); got != want {
					t.Fatalf("%s above %s up to %s has %d roots, want %d", polyText(t, p), lo, hi, got, want)
				}
			}
		}
	}
}

// signChanges returns how often the values of a chain change their signs.
func signChanges(chain []bigPoly, x *big.Rat) int {
	changes, last := 0, 0
	for _, p := range chain {
		sign := p.value(x).Sign()
		if sign*last < 0 {
			changes++
		}
		if sign != 0 {
			last = sign
		}
	}
	return changes
}

// plainCount counts roots by Sturm's chain as it is in the books, with fractions.
func plainCount(p bigPoly, lo, hi *big.Rat) int {
	var slope bigPoly
	for i := 1; i < len(p); i++ {
		slope = append(slope, new(big.Rat).Mul(p[i], big.NewRat(int64(i), 1)))
	}
	simple, _ := p.over(p.gcd(slope))
	chain := []bigPoly{simple}
	slope = nil
	for i := 1; i < len(simple); i++ {
		slope = append(slope, new(big.Rat).Mul(simple[i], big.NewRat(int64(i), 1)))
	}
	for next := slope; len(next) > 0; {
		chain = append(chain, next)
		_, rest := chain[len(chain)-2].over(next)
		next = rest.negated()
	}
	return signChanges(chain, lo) - signChanges(chain, hi)
}

// TestRootsAgainstPlainCount: P1.6, polynomials of all kinds, with gaps, and with ends at which members of the chain are 0.
func TestRootsAgainstPlainCount(t *testing.T) {
	r := rand.New(rand.NewSource(12))
	for range 1500 {
		p := randomPoly(t, r, 1+r.Intn(10), 1+r.Intn(3))
		for i := range p[:max(len(p)-1, 0)] {
			if r.Intn(2) == 0 {
				p[i] = FromInt(r.Intn(5) - 2)
			}
		}
		if len(p) == 0 {
			continue
		}
		ends := []*big.Rat{big.NewRat(int64(r.Intn(9)-4), int64(1+r.Intn(2))), randomRat(r, 2, 1), big.NewRat(0, 1), big.NewRat(1, 1)}
		for i, lo := range ends {
			hi := ends[(i+1)%len(ends)]
			if lo.Cmp(hi) > 0 {
				lo, hi = hi, lo
			}
			want := plainCount(bigPolyOf(t, p), lo, hi)
			if got := rootCountIn(t, p, lo.RatString(), hi.RatString()); got != want {
				t.Fatalf("%s above %s up to %s: %d, want %d", polyText(t, p), lo, hi, got, want)
			}
		}
		far := new(big.Rat).SetInt(new(big.Int).Exp(big.NewInt(10), big.NewInt(50), nil))
		if got, want := rootCount(t, p), plainCount(bigPolyOf(t, p), new(big.Rat).Neg(far), far); got != want {
			t.Fatalf("%s: %d, want %d", polyText(t, p), got, want)
		}
	}
}

// TestFewDigits: P1.6, what is counted with few digits is right, or known to be unsure.
func TestFewDigits(t *testing.T) {
	r := rand.New(rand.NewSource(17))
	seen := map[bool]int{}
	for range 300 {
		p := randomPoly(t, r, 8, 1+r.Intn(4))
		if len(p) == 0 {
			continue
		}
		coefs, e := fromPoly(p)
		c := newChain(primitive(must(t, coefs, e)))
		lo, hi := randomFrac(t, r, 2), randomFrac(t, r, 9)
		if n, e := Compare(lo, hi); must(t, n, e) > 0 {
			lo, hi = hi, lo
		}
		from, _ := fromFrac(lo)
		to, _ := fromFrac(hi)
		want := plainCount(bigPolyOf(t, p), rat(t, lo), rat(t, hi))
		for keep := precision(1); keep < 40; keep++ {
			got, sure := c.countWith(keep, c.at(from), c.at(to))
			if sure && got != want {
				t.Fatalf("%s above %s up to %s: %d with %d digits, want %d", polyText(t, p), text(t, lo), text(t, hi), got, keep, want)
			}
			seen[sure]++
		}
	}
	if seen[true] < 1000 || seen[false] < 1000 {
		t.Error(seen)
	}
}

// TestRangesThatFollow: P1.9, ranges that follow each other have the roots of the whole range together.
func TestRangesThatFollow(t *testing.T) {
	r := rand.New(rand.NewSource(13))
	for range 100 {
		p := randomPoly(t, r, 20, 1+r.Intn(40))
		if len(p) == 0 {
			continue
		}
		ends := []string{"-" + nines(360), "-30", "-1", "-1/2", "0", "1/" + nines(360), "1/3", "1", "7/2", nines(360)}
		sum := 0
		for i := range len(ends) - 1 {
			sum += rootCountIn(t, p, ends[i], ends[i+1])
		}
		if whole := rootCountIn(t, p, ends[0], ends[len(ends)-1]); sum != whole || whole != rootCount(t, p) {
			t.Fatal(polyText(t, p), sum, whole)
		}
	}
}

// TestLongPolynomials: P1.6 and P1.9, at MaxCoefs.
func TestLongPolynomials(t *testing.T) {
	simple, several := polyOf(t, "1"), polyOf(t, "1")
	for i := range api.MaxCoefs - 1 {
		simple = product(t, simple, linear(t, FromInt(i-20)))
		third, e := Ratio(i%8, 3)
		several = product(t, several, linear(t, must(t, third, e)))
	}
	for i, x := range []struct {
		p      []api.Frac
		lo, hi string
		want   int
	}{
		{simple, "-21", "43", 64}, {simple, "-20", "43", 63}, {simple, "0", "10", 10}, {simple, "1/2", "3/4", 0},
		{several, "-1", "3", 8}, {several, "0", "7/3", 7}, {several, "1/3", "2/3", 1}, {several, "2/3", "5/3", 3},
		{polyOf(t, strings.Repeat("0 ", 64)+"1"), "-1", "0", 1}, {polyOf(t, "-2 "+strings.Repeat("0 ", 63)+"1"), "1", "2", 1},
		{polyOf(t, "2 "+strings.Repeat("0 ", 63)+"1"), "-2", "2", 0}, {polyOf(t, strings.Repeat("1 ", 64)+"1"), "-2", "2", 0}, {polyOf(t, strings.Repeat("1 ", 63)+"1"), "-2", "-1", 1},
	} {
		if got := rootCountIn(t, x.p, x.lo, x.hi); got != x.want {
			t.Errorf("%d above %s up to %s: %d, want %d", i, x.lo, x.hi, got, x.want)
		}
	}
	if got := rootCount(t, several); got != 8 {
		t.Error(got)
	}
}

// TestLargeCoefficients: P1.6, coefficients at MaxGroups: roots that are near each other, gaps in the chain, and dens that have nothing in common.
func TestLargeCoefficients(t *testing.T) {
	r := rand.New(rand.NewSource(14))
	// Two of the roots have thousands of equal digits.
	near := polyOf(t, "-2 4"+tenTo(150)[1:]+" -2"+tenTo(300)[1:]+strings.Repeat(" 0", 37)+" 1")
	if got := []int{rootCount(t, near), rootCountIn(t, near, "0", "1"), rootCountIn(t, near, "0", "1/"+tenTo(150))}; !reflect.DeepEqual(got, []int{4, 2, 1}) {
		t.Error(got)
	}
	close := product(t, linear(t, frac(t, "1/"+tenTo(170))), linear(t, frac(t, "1/"+nines(170))), polyOf(t, "1 0 1"))
	if got := []int{rootCount(t, close), rootCountIn(t, close, "1/"+tenTo(170), "1/"+nines(170)), rootCountIn(t, close, "0", "1/"+tenTo(170))}; !reflect.DeepEqual(got, []int{2, 1, 1}) {
		t.Error(got)
	}
	for _, gaps := range []bool{false, true} {
		p := make([]api.Frac, 41)
		for i := range p {
			p[i] = randomFrac(t, r, 360)
			if gaps && (i%3 == 1 || i > 33) {
				p[i] = FromInt(0)
			}
		}
		p[40] = frac(t, nines(360)+"/"+nines(359)+"8")
		whole := rootCount(t, p)
		left, right := rootCountIn(t, p, "-"+nines(360), "0"), rootCountIn(t, p, "0", nines(360))
		if whole%2 != 0 || left+right != whole {
			t.Error(gaps, whole, left, right)
		}
	}
}

// TestChangesOf: P1.6, signs that are 0 or unknown.
func TestChangesOf(t *testing.T) {
	for _, x := range []struct {
		signs []int
		want  int
		known bool
	}{
		{[]int{1}, 0, true}, {[]int{1, 1, 1}, 0, true}, {[]int{1, -1, 1}, 2, true}, {[]int{-1, 1}, 1, true}, {[]int{0, 1, -1}, 1, true}, {[]int{0, -1}, 0, true},
		{[]int{1, 0, -1}, 1, true}, {[]int{-1, 0, 1, -1}, 2, true}, {[]int{0, 1, 0, -1}, 1, true}, {[]int{1, -1, 0, 1, 0, -1}, 3, true},
		{[]int{1, 0, 1}, 0, false}, {[]int{1, 0, 0, -1}, 0, false}, {[]int{1, 0}, 0, false}, {[]int{0, 0, 1}, 0, false}, {[]int{0, 0}, 0, false},
	} {
		if n, known := changesOf(x.signs); n != x.want || known != x.known {
			t.Error(x, n, known)
		}
	}
}
