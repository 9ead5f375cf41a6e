package motion

import (
	"math"
	"math/big"
	"math/cmplx"
	"math/rand"
	"testing"

	"barleycorn/api"
	"barleycorn/exact"
)

// TestStops: P2.5, for the chapter's examples, and for stops at the ends of all that is counted.
func TestStops(t *testing.T) {
	for _, x := range []struct {
		p    string
		want int
	}{
		{hypocycloid, 3},
		{"-4 100 0, 2 200 0", 6},
		{"-4 30 0, 1 400 0, 6 30 0", 0},
		{"0 7 7, 1 100 0", 0},
		{"1 100 0", 0},
		{"-64 100 1", 0},
		{"-1 1 0, 1 0 1", 2},
		{"-1 1 0, 1 2 0", 0},
		{"-1 1 0, 0 5 5, 1 0 1", 2},
		{"0 5 0, 2 1 0, 4 0 1", 0},
		// 1 + u: only at u = -1, which is infinitely far where roots are counted.
		{"1 1 0, 2 1/2 0", 1},
		{"1 1 0, 2 -1/2 0", 1},
		{"3 1/3 0, 4 1/4 0", 1},
		{"1 1 0, 3 1/3 0", 2},
		{"1 1 0, 3 -1/3 0", 2},
		// (1 + u)^2, (1 - u)^2, (1 + u)(1 - u), (1 + u)^2 (1 - u): each stop is one, however often it is a root.
		{"1 1 0, 2 1 0, 3 1/3 0", 1},
		{"1 1 0, 2 -1 0, 3 1/3 0", 1},
		{"1 1 0, 3 -1/3 0", 2},
		{"1 1 0, 2 1/2 0, 3 -1/3 0, 4 -1/4 0", 2},
		// 1 + u + u^2, and 1 + u/2 + u^2: places without fractions.
		{"1 1 0, 2 1/2 0, 3 1/3 0", 2},
		{"1 1 0, 2 1/4 0, 3 1/3 0", 2},
		// (2 - u)(1 - 2u): roots that are each other's mirror at the circle are none on it.
		{"1 2 0, 2 -5/2 0, 3 2/3 0", 0},
		// (1 - u)(2 - u).
		{"1 2 0, 2 -3/2 0, 3 1/3 0", 1},
		{"-64 1/64 0, 64 1/64 0", 128},
		{"-64 1/64 0, 64 1/63 0", 0},
		{"-64 1/64 0, 0 3 4, 64 0 1/64", 128},
	} {
		if n, e := Stops(path(t, x.p)); n != x.want || e != api.OK {
			t.Error(x, n, e)
		}
	}
}

// TestStopsErrors: P2.5, the errors of Stops in their order; the spread at MaxSpread and just above, without the arm with K = 0.
func TestStopsErrors(t *testing.T) {
	for texts, want := range map[string]api.Errno{
		"":                              api.ErrNone,
		"0 3 4":                         api.ErrNone,
		"0 1000000000 0":                api.ErrNone,
		"1 1000000000 0":                api.ErrLarge,
		"0 1000000000 0, 1 1 0":         api.ErrLarge,
		"-12 1 0, 1 1 0, 12 1 0":        api.OK,
		"-12 1 0, 1 1 0, 13 1 0":        api.ErrMany,
		"-24 1 0, 2 1 0, 24 1 0":        api.OK,
		"-24 1 0, 2 1 0, 26 1 0":        api.ErrMany,
		"-24 1 0, 2 1 0, 25 1 0":        api.ErrMany,
		"1 1 0, 2 1 0, 25 1 0":          api.OK,
		"0 1 0, 1 1 0, 2 1 0, 25 1 0":   api.OK,
		"0 1 0, 1 1 0, 2 1 0, 26 1 0":   api.ErrMany,
		"-64 1 0, 64 1 0":               api.OK,
		"-64 1 0, 0 1 0, 64 1 0":        api.OK,
		"-64 1 0, 63 1 0, 64 1 0":       api.ErrMany,
		"-64 1 0, 63 1/1000000000 0":    api.ErrLarge,
		"1 1 0, 2 1 0, 30 1000000000 0": api.ErrLarge,
		"-2 1 0, 0 1 0, 3 1 0, 63 1 0":  api.OK, // the step is 5 without K = 0
	} {
		if n, e := Stops(path(t, texts)); e != want || e != api.OK && n != 0 {
			t.Error(texts, n, e)
		}
	}
}

// TestStopsOfRoots: P2.5, the stops of a path whose derivative is a product of factors u^s - z, some of them several times.
func TestStopsOfRoots(t *testing.T) {
	r := rand.New(rand.NewSource(10))
	counted := 0
	on := []gauss{small(1, 0), small(-1, 0), small(0, 1), small(0, -1), unitOf(1, 2), unitOf(-1, 2), unitOf(2, 3)}
	off := []gauss{small(2, 0), {big.NewRat(1, 2), new(big.Rat)}, small(1, 1), {big.NewRat(1, 2), big.NewRat(1, 2)}, small(-3, 0), small(0, 2)}
	for range 300 {
		factors := []gauss{small(1, 0)}
		found := map[int]bool{}
		for range r.Intn(6) {
			root := off[r.Intn(len(off))]
			if i := r.Intn(len(on)); r.Intn(2) == 0 {
				root, found[i] = on[i], true
			}
			next := append([]gauss{small(0, 0)}, factors...)
			for i, c := range factors {
				next[i] = next[i].plus(c.times(root).times(small(-1, 0)))
			}
			factors = next
		}
		first, step := 1+r.Intn(5), 1+r.Intn(3)
		if r.Intn(2) == 0 {
			first -= 20 * step // all K below 0
		}
		var p []api.Arm
		for i, c := range factors {
			if k := first + i*step; !c.isZero() {
				p = append(p, api.Arm{K: k, C: c.times(gauss{big.NewRat(1, int64(k)), new(big.Rat)}).given(t)})
			}
		}
		if !isPlain(p) {
			continue
		}
		counted++
		want := len(found) * step
		if n, e := Stops(p); n != want || e != api.OK {
			t.Fatal(pathText(t, p), found, step, n, e)
		}
		if p[0].K > 0 {
			p = append([]api.Arm{{K: 0, C: turn(t, "5 1")}}, p...)
			if n, e := Stops(p); n != want || e != api.OK {
				t.Fatal("with K = 0", pathText(t, p), n, e)
			}
		}
	}
	if counted < 150 {
		t.Error("the test needs other roots:", counted)
	}
}

// unitOf returns the number around (den + num i) / (den - num i).
func unitOf(num, den int64) gauss {
	a := small(den, num)
	return a.over(a.mirrored())
}

// TestStopsAround: P2.5, with the greatest spread, and K on both sides of 0.
func TestStopsAround(t *testing.T) {
	// The derivative is u^k times 2 cos(12 a) + cos(a) / 2 at u = e^(i a), which changes its sign 24 times.
	if n, e := Stops(path(t, "-12 -1/12 0, -1 -1/4 0, 1 1/4 0, 12 1/12 0")); n != 24 || e != api.OK {
		t.Error(n, e)
	}
	// Here it is the sum of all 2 cos(k a), k from 1 to 12; that is sin(25 a / 2) / sin(a / 2) - 1, and 0 at 11 multiples of 2 pi / 12 and at 13 odd ones of pi / 13; pi is among both.
	var p []api.Arm
	for k := -12; k <= 12; k++ {
		if k != 0 {
			p = append(p, api.Arm{K: k, C: gauss{big.NewRat(1, int64(k)), new(big.Rat)}.given(t)})
		}
	}
	if n, e := Stops(p); n != 11+13-1 || e != api.OK {
		t.Error(n, e)
	}
}

// TestTwoArms: P2.9, paths with K 1 - m and 1.
func TestTwoArms(t *testing.T) {
	lengths := []string{"5 0", "0 -5", "3 4", "-4 3"}
	for m := 2; m <= 24; m++ {
		for i, c := range lengths {
			first := turn(t, c)
			for by := m - 3; by <= m+1; by++ {
				other := big2(t, turn(t, lengths[(i+m)%4])).times(small(int64(by), 0))
				if other.isZero() {
					continue
				}
				p := []api.Arm{{K: 1 - m, C: first}, {K: 1, C: other.given(t)}}
				want := 0
				if by == m-1 || -by == m-1 {
					want = m
				}
				if n, e := Stops(p); n != want || e != api.OK {
					t.Error(pathText(t, p), "stops", n, e)
				}
				if n, e := Order(p); n != m || e != api.OK {
					t.Error(pathText(t, p), "order", n, e)
				}
				if is, e := Mirrors(p); !is || e != api.OK {
					t.Error(pathText(t, p), "mirrors", is, e)
				}
			}
		}
	}
}

// TestInside: P2.5, with an r that is just reached, and one just below it.
func TestInside(t *testing.T) {
	for _, x := range []struct{ p, reach, below string }{
		{hypocycloid, "300", "299"},
		{hypocycloid, "300", "29999999/100000"},
		{"", "0", ""},
		{"0 3 4", "5", "49/10"},
		{"2 3 4", "5", "49/10"},
		{"-64 3 4", "5", "499999999/100000000"},
		{"-1 1 0, 1 1 0", "2", "199/100"},
		{"-1 1 0, 1 0 1", "2", "199999999/100000000"},
		{"0 1 0, 1 1 0", "2", "199999999/100000000"},
		// At u = -1, which is infinitely far.
		{"0 1 0, 1 -1 0", "2", "199999999/100000000"},
		{"0 3 4, 1 -3 -4", "10", "99999999/10000000"},
		// 9^2 less the norm is 4 * (1 - cos a)^4 or so: r is reached very flatly.
		{"0 2 0, 1 8 0, 2 -1 0", "9", "899999999/100000000"},
		{"0 2 0, 1 -8 0, 2 -1 0", "9", "899999999/100000000"},
		{"0 2 0, 3 0 8, 6 1 0", "9", "899999999/100000000"},
		{"-64 1 0, 64 0 1", "2", "199999999/100000000"},
		{"1 1/3 0, 2 1/2 0, 4 1/7 0", "41/42", "39/40"},
		{"0 999999999 0", "999999999", "999999998"},
		{"0 1/999999999 0", "1/999999999", "0"},
		{"0 1 0, 1 1/2 0, 2 1/4 0", "7/4", "6999999/4000000"},
	} {
		p := path(t, x.p)
		if is, e := Inside(p, frac(t, x.reach)); !is || e != api.OK {
			t.Error(x, is, e)
		}
		if x.below == "" {
			continue
		}
		if is, e := Inside(p, frac(t, x.below)); is || e != api.OK {
			t.Error(x, "below", is, e)
		}
		more, e := exact.Add(frac(t, x.reach), frac(t, "1/2"))
		must(t, more, e)
		if is, e := Inside(p, more); isShort(more) && (!is || e != api.OK) {
			t.Error(x, "above", is, e)
		}
	}
}

// TestInsideErrors: P2.5, the errors of Inside in their order; r and the spread at their limits.
func TestInsideErrors(t *testing.T) {
	for _, x := range []struct {
		p, r string
		e    api.Errno
	}{
		{hypocycloid, "-1", api.ErrArg},
		{hypocycloid, "-1/1000000000", api.ErrArg},
		{hypocycloid, "-1000000000", api.ErrArg},
		{hypocycloid, "0", api.OK},
		{hypocycloid, "999999999", api.OK},
		{hypocycloid, "1000000000", api.ErrLarge},
		{hypocycloid, "1/999999999", api.OK},
		{hypocycloid, "1/1000000000", api.ErrLarge},
		{hypocycloid, "1000000000/999999999", api.ErrLarge},
		{hypocycloid, tenTo(359), api.ErrLarge},
		{"1 1000000000 0", "1", api.ErrLarge},
		{"1 1000000000 0", "-1", api.ErrArg},
		{"-12 1 0, 1 1 0, 12 1 0", "5", api.OK},
		{"-12 1 0, 1 1 0, 13 1 0", "5", api.ErrMany},
		{"-12 1 0, 1 1 0, 13 1 0", "-5", api.ErrArg},
		{"-12 1 0, 1 1 0, 13 1 0", "1000000000", api.ErrLarge},
		{"-12 1 0, 1 1 0, 13 1000000000 0", "5", api.ErrLarge},
		{"0 1 0, 1 1 0, 24 1 0", "5", api.OK},
		{"0 1 0, 1 1 0, 25 1 0", "5", api.ErrMany}, // K = 0 counts here
		{"0 1 0, 2 1 0, 48 1 0", "5", api.OK},
		{"0 1 0, 2 1 0, 50 1 0", "5", api.ErrMany},
		{"-64 1 0, 64 1 0", "5", api.OK},
		{"-64 1 0, 0 1 0, 64 1 0", "5", api.OK},
		{"-64 1 0, 0 1 0, 63 1 0", "5", api.ErrMany},
	} {
		if is, e := Inside(path(t, x.p), frac(t, x.r)); e != x.e || e != api.OK && is {
			t.Error(x, is, e)
		}
	}
	for _, r := range badFracs() {
		for _, texts := range []string{hypocycloid, "1 1000000000 0", "-12 1 0, 1 1 0, 13 1 0"} {
			if is, e := Inside(path(t, texts), r); e != api.ErrFrac || is {
				t.Error(r, texts, is, e)
			}
		}
	}
}

// farthest returns about the distance from 0 to the place of a path that is furthest away.
func farthest(t *testing.T, p []api.Arm) float64 {
	t.Helper()
	const parts = 2000
	at := func(a float64) float64 { return cmplx.Abs(placeAbout(t, p, a)) }
	best, reach := 0.0, at(0)
	for i := range parts {
		if d := at(2 * math.Pi * float64(i) / parts); d > reach {
			best, reach = 2*math.Pi*float64(i)/parts, d
		}
	}
	for width := 2 * math.Pi / parts; width > 1e-9; width /= 2 {
		for _, a := range []float64{best - width, best + width} {
			if d := at(a); d > reach {
				best, reach = a, d
			}
		}
	}
	return reach
}

// TestInsideAbout: P2.5 and P2.10, whether places are further away than r, by floats; also for paths that begin elsewhere, are turned or mirrored.
func TestInsideAbout(t *testing.T) {
	r := rand.New(rand.NewSource(11))
	for range 60 {
		p := randomPath(t, r, 1+r.Intn(8), []int{2, 5, 12}[r.Intn(3)])
		q := altered(t, p, uint8(r.Intn(8)), unit(r), unit(r))
		reach := farthest(t, p)
		for _, by := range []float64{0.7, 0.999, 0.99999, 1.00001, 1.001, 1.4} {
			limit, e := exact.Ratio(int(reach*by*1e6), 1000000)
			must(t, limit, e)
			want := by > 1 || len(p) == 0
			if is, e := Inside(p, limit); is != want || e != api.OK {
				t.Fatal(pathText(t, p), reach, text(t, limit), is, e)
			}
			if is, e := Inside(q, limit); isPlain(q) && (is != want || e != api.OK) {
				t.Fatal("changed:", pathText(t, q), reach, text(t, limit), is, e)
			}
		}
	}
}

// TestInsideSum: P2.10, a path lies inside of the sum of the lengths of its arms, and reaches it where all arms have one direction.
func TestInsideSum(t *testing.T) {
	r := rand.New(rand.NewSource(12))
	for range 80 {
		v := unit(r)
		sum := new(big.Rat)
		var p, aligned []api.Arm
		for k := -4; k <= 4; k++ {
			length := big.NewRat(int64(r.Intn(30)), int64(1+r.Intn(3)))
			if length.Sign() == 0 || r.Intn(3) == 0 {
				continue
			}
			sum.Add(sum, length)
			c := gauss{length, new(big.Rat)}
			p = append(p, api.Arm{K: k, C: c.times(unit(r)).given(t)})
			aligned = append(aligned, api.Arm{K: k, C: c.times(v.power(-k)).given(t)})
		}
		if len(aligned) == 0 {
			continue
		}
		all := frac(t, sum.RatString())
		less, e := exact.Sub(all, frac(t, "1/100000"))
		must(t, less, e)
		for _, path := range [][]api.Arm{p, aligned} {
			if is, e := Inside(path, all); isPlain(path) && (!is || e != api.OK) {
				t.Fatal(pathText(t, path), text(t, all), is, e)
			}
		}
		if is, e := Inside(aligned, less); isPlain(aligned) && (is || e != api.OK) {
			t.Fatal(pathText(t, aligned), text(t, less), is, e)
		}
	}
}

// TestSameProperties: P2.10, what begins elsewhere, is turned or mirrored, or is gone through in the other sense, has the same stops, order and mirrors.
func TestSameProperties(t *testing.T) {
	r := rand.New(rand.NewSource(13))
	for range 200 {
		p := randomPath(t, r, 4, 4)
		if r.Intn(2) == 0 { // so that there are stops
			p = path(t, []string{hypocycloid, "1 1 0, 2 1/2 0", "1 1 0, 2 -1 0, 3 1/3 0", "-1 1 0, 3 1/3 0"}[r.Intn(4)])
		}
		q := altered(t, p, uint8(r.Intn(8)), unit(r), unit(r))
		if !isPlain(q) {
			continue
		}
		for name, call := range map[string]func([]api.Arm) (int, api.Errno){"Stops": Stops, "Order": Order, "Times": Times} {
			n, e := call(p)
			m, f := call(q)
			if n != m || e != f {
				t.Fatal(name, pathText(t, p), "and", pathText(t, q), n, e, m, f)
			}
		}
	}
}

// TestOddFactor: the roots that a polynomial has an odd number of times, each once.
func TestOddFactor(t *testing.T) {
	factor := func(a string) []api.Frac { return []api.Frac{negated(frac(t, a)), exact.FromInt(1)} }
	power := func(p []api.Frac, n int) []api.Frac {
		all := constant(exact.FromInt(1))
		for range n {
			all = product(all, p)
		}
		return all
	}
	noRoot := []api.Frac{exact.FromInt(3), exact.FromInt(1), exact.FromInt(1)}
	for _, times := range [][3]int{{0, 0, 0}, {1, 0, 0}, {2, 0, 0}, {3, 0, 0}, {1, 2, 3}, {4, 4, 2}, {5, 4, 3}, {6, 7, 8}, {9, 1, 12}} {
		p := constant(frac(t, "-7/3"))
		odd := 0
		for i, n := range times {
			p = product(p, power(factor([]string{"2", "-1/3", "0"}[i]), n))
			odd += n % 2
		}
		for _, n := range []int{0, 1, 2} {
			p := product(p, power(noRoot, n))
			f := oddFactor(p)
			if roots, e := exact.Roots(f); roots != odd || e != api.OK || len(f) != 1+odd+2*(n%2) {
				t.Error(times, n, f, roots, e)
			}
			if neverNegative(p) || neverNegative(product(p, constant(exact.FromInt(-1)))) != (odd == 0) {
				t.Error(times, n, "neverNegative")
			}
		}
	}
	if !neverNegative(nil) {
		t.Error("0 is never below 0")
	}
}

// TestLongestCircle: P2.5, plain paths with as many digits and arms as there may be, so that nothing on the way is too large: r is the sum of lengths, or a little less.
func TestLongestCircle(t *testing.T) {
	var aligned, mixed []api.Arm
	sum := new(big.Rat)
	r := rand.New(rand.NewSource(14))
	for k := -12; k <= 12; k++ {
		if k == 3 {
			continue
		}
		length := big.NewRat(41000000-int64(r.Intn(1000)), 999999937)
		sum.Add(sum, length)
		c := gauss{length, new(big.Rat)}
		aligned = append(aligned, api.Arm{K: k, C: c.times(small(0, 1).power(-k)).given(t)})
		mixed = append(mixed, api.Arm{K: k, C: gauss{big.NewRat(r.Int63n(999999999), 999999937), big.NewRat(r.Int63n(999999999), 999999937)}.given(t)})
	}
	all := frac(t, sum.RatString())
	less, e := exact.Sub(all, frac(t, "1/999999937"))
	must(t, less, e)
	if is, e := Inside(aligned, all); !is || e != api.OK {
		t.Error(is, e)
	}
	if is, e := Inside(aligned, less); is || e != api.OK {
		t.Error(is, e)
	}
	reach := farthest(t, mixed)
	for _, by := range []float64{0.9999, 1.0001} {
		limit, e := exact.Ratio(int(reach*by*999983), 999983)
		must(t, limit, e)
		if is, e := Inside(mixed, limit); is != (by > 1) || e != api.OK {
			t.Error(by, is, e)
		}
	}
	if n, e := Stops(mixed); n != 0 || e != api.OK {
		t.Error(n, e)
	}
}
