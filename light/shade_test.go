package light_test

import (
	"math/big"
	"math/rand"
	"slices"
	"testing"

	"barleycorn/api"
	"barleycorn/light"
)

// brightIs reports an error unless a facet has a shade.
func brightIs(t *testing.T, tilt api.Tilt, pitch int, l api.Light, want api.Shade) {
	t.Helper()
	if s, e := light.Bright(tilt, pitch, l); s != want || e != api.OK {
		t.Error(tilt, pitch, l, s, e, "want", want)
	}
}

// TestBrightExamples: P6.1, the chapter's examples, and others: where d is below 0, 0 and just above 0, where the light is along the normal, and where the fraction has to be brought to lowest terms.
func TestBrightExamples(t *testing.T) {
	for _, x := range []struct {
		tilt  api.Tilt
		pitch int
		l     api.Light
		want  api.Shade
	}{
		{api.Tilt{X: 8}, 1, direction(0, 0, 1), shade(1, 17)},
		{api.Tilt{X: 8}, 1, direction(-4, 0, 1), shade(1, 1)},
		{api.Tilt{X: 8}, 1, direction(1, 0, 1), shade(0, 1)},
		{api.Tilt{X: 2}, 1, direction(1, 0, 1), shade(0, 1)},            // d is 0
		{api.Tilt{X: 1}, 1, direction(1, 0, 1), shade(1, 10)},           // d is 1
		{api.Tilt{X: 3}, 1, direction(1, 0, 1), shade(0, 1)},            // d is -1
		{api.Tilt{Y: 2}, 1, direction(0, 1, 1), shade(0, 1)},            // d is 0
		{api.Tilt{Y: 1}, 1, direction(0, 1, 1), shade(1, 10)},           // d is 1
		{api.Tilt{Y: 3}, 1, direction(0, 1, 1), shade(0, 1)},            // d is -1
		{api.Tilt{X: 3, Y: -1}, 1, direction(1, 1, 1), shade(0, 1)},     // d is 0
		{api.Tilt{X: 2, Y: -1}, 1, direction(1, 1, 1), shade(1, 27)},    // d is 1
		{api.Tilt{X: 399}, 100, direction(15, 0, 30), shade(1, 996005)}, // d is 15: 225 / (199201 * 1125)
		{api.Tilt{X: 400}, 100, direction(15, 0, 30), shade(0, 1)},      // d is 0
		{api.Tilt{}, 1, direction(0, 0, 1), shade(1, 1)},                // straight above
		{api.Tilt{}, 100, direction(0, 0, 30), shade(1, 1)},             // straight above
		{api.Tilt{}, 7, direction(30, 0, 30), shade(1, 2)},              // halfway up
		{api.Tilt{}, 7, direction(3, 0, 4), shade(16, 25)},              // flat: Z squared through all
		{api.Tilt{X: -6, Y: -4}, 1, direction(3, 2, 1), shade(1, 1)},    // along the normal
		{api.Tilt{X: -6, Y: -4}, 1, direction(30, 20, 10), shade(1, 1)}, // along the normal, and ten times as long
		{api.Tilt{X: 6, Y: 4}, 1, direction(3, 2, 1), shade(0, 1)},      // mirrored in both
		{api.Tilt{X: 400, Y: 400}, 100, direction(-30, -30, 15), shade(1, 1)},
		{api.Tilt{X: 400, Y: -400}, 100, direction(-30, 30, 15), shade(1, 1)},
		{api.Tilt{X: 400, Y: 400}, 1, direction(30, 30, 1), shade(0, 1)},
		{api.Tilt{X: -400, Y: -400}, 100, direction(30, 30, 30), shade(25, 27)},
		{api.Tilt{X: 1, Y: 1}, 1, direction(0, 0, 1), shade(2, 3)},     // 4 / 6
		{api.Tilt{X: 2, Y: 2}, 1, direction(0, 0, 5), shade(1, 3)},     // 100 / (12 * 25)
		{api.Tilt{X: 3, Y: 5}, 1, direction(-1, -1, 1), shade(50, 57)}, // 100 / (38 * 3)
	} {
		brightIs(t, x.tilt, x.pitch, x.l, x.want)
	}
}

// TestBrightErrors: P6.1, the errors of Bright in the order in which they are named: tilts, pitches and lights at their limits and just beyond them.
func TestBrightErrors(t *testing.T) {
	for _, f := range tiltFields() {
		for n, isValid := range f.around() {
			var tilt api.Tilt
			*f.field(&tilt) = n
			brightFails(t, tilt, 1, direction(1, 1, 1), isValid, true)
			brightFails(t, tilt, 1, direction(1, 1, 0), isValid, false)
		}
	}
	for n, isValid := range (limit[int]{"pitch", nil, 1, 100}).around() {
		brightFails(t, api.Tilt{X: 1}, n, direction(1, 1, 1), isValid, true)
		brightFails(t, api.Tilt{X: 1}, n, direction(31, 1, 1), isValid, false)
	}
	for _, f := range lightFields() {
		for n, isValid := range f.around() {
			l := direction(1, 1, 1)
			*f.field(&l) = n
			brightFails(t, api.Tilt{X: 400}, 1, l, true, isValid)
			brightFails(t, api.Tilt{X: 401}, 1, l, false, isValid)
			brightFails(t, api.Tilt{X: 400}, 0, l, false, isValid)
		}
	}
}

// brightFails reports an error unless Bright says whether its first arguments are valid, and then whether the light is.
func brightFails(t *testing.T, tilt api.Tilt, pitch int, l api.Light, isArg, isLight bool) {
	t.Helper()
	want := api.OK
	switch {
	case !isArg:
		want = api.ErrArg
	case !isLight:
		want = api.ErrLight
	}
	s, e := light.Bright(tilt, pitch, l)
	if e != want || e != api.OK && s != (api.Shade{}) {
		t.Error(tilt, pitch, l, s, e, "want", want)
	}
}

// TestRandomShades: P6.1 and P6.5, a shade is the square of the cosine, in lowest terms; it is 1 just if the light is along the normal, and does not depend on how long the light's direction is.
func TestRandomShades(t *testing.T) {
	r := rand.New(rand.NewSource(102))
	zeros, ones := 0, 0
	for i := range 20000 {
		tilt, pitch, l := randomTilt(r), 1+r.Intn([]int{3, 100}[i%2]), randomLight(r)
		if i%5 == 0 { // along the normal
			k := 1 + r.Intn(12)
			l, pitch = direction(r.Intn(61)-30, r.Intn(61)-30, 1+r.Intn(8)), k
			tilt = api.Tilt{X: -2 * k * l.X / l.Z, Y: -2 * k * l.Y / l.Z}
			tilt.X, tilt.Y = max(min(tilt.X, 400), -400), max(min(tilt.Y, 400), -400)
		}
		want := cosine(tilt, pitch, l)
		brightIs(t, tilt, pitch, l, shadeOf(want))
		isAlong := -tilt.X*l.Z == 2*pitch*l.X && -tilt.Y*l.Z == 2*pitch*l.Y
		s, e := light.Bright(tilt, pitch, l)
		if s = must(t, s, e); (s == shade(1, 1)) != isAlong || s.Num < 0 || s.Num > s.Den || s.Den < 1 {
			t.Fatal(tilt, pitch, l, s)
		}
		for k := 2; k*max(size(l.X), size(l.Y), l.Z) <= 30; k++ {
			brightIs(t, tilt, pitch, direction(k*l.X, k*l.Y, k*l.Z), s)
		}
		zeros, ones = zeros+count([]int{s.Num}, 0), ones+count([]api.Shade{s}, shade(1, 1))
		if t.Failed() {
			t.FailNow()
		}
	}
	if zeros < 1000 || ones < 500 {
		t.Error(zeros, ones)
	}
}

// TestCompare: P6.1, shades that differ by little, in lowest terms or not, and shades that are not valid.
func TestCompare(t *testing.T) {
	const most = 1000000000
	for _, x := range []struct {
		a, b api.Shade
		want int
	}{
		{shade(0, 1), shade(1, 1), -1}, {shade(1, 3), shade(1, 2), -1}, {shade(2, 4), shade(1, 2), 0}, {shade(0, 7), shade(0, 1), 0}, {shade(5, 5), shade(1, 1), 0},
		{shade(most-1, most), shade(1, 1), -1}, {shade(1, most), shade(0, 1), 1}, {shade(0, most), shade(0, 1), 0}, {shade(most, most), shade(1, 1), 0},
		{shade(most-2, most-1), shade(most-1, most), -1}, {shade(499999999, 999999999), shade(1, 2), -1}, {shade(500000000, 999999999), shade(1, 2), 1}, {shade(1, most), shade(1, most-1), -1},
		{shade(333333333, most), shade(1, 3), -1}, {shade(333333333, 999999999), shade(1, 3), 0}, {shade(1, most), shade(1, most), 0}, {shade(500000000, most), shade(499999999, 999999998), 0},
		{shade(0, 1), shade(1, most+1), 0}, {shade(0, 1), shade(most, most+1), 0}, {shade(0, 1), shade(1, 0), 0}, {shade(1, 1), shade(0, 0), 0}, {shade(1, 1), shade(-1, 2), 0}, {shade(1, 1), shade(-1, most), 0},
		{shade(0, 1), shade(2, 1), 0}, {shade(0, 1), shade(most+1, most), 0}, {shade(1, 1), shade(1, -2), 0}, {shade(1, 1), shade(-1, -2), 0}, {shade(1, 1), shade(-3, -2), 0}, {shade(1, 1), shade(0, -1), 0},
		{shade(1, 2), shade(leastInt, 1), 0}, {shade(1, 2), shade(greatestInt, 1), 0}, {shade(1, 2), shade(1, leastInt), 0}, {shade(1, 2), shade(1, greatestInt), 0}, {shade(1, 2), shade(greatestInt, greatestInt), 0}, {shade(1, 2), shade(leastInt, leastInt), 0},
	} {
		if n := light.Compare(x.a, x.b); n != x.want {
			t.Error(x.a, x.b, n, "want", x.want)
		}
		if n := light.Compare(x.b, x.a); n != -x.want {
			t.Error(x.b, x.a, n, "want", -x.want)
		}
		if n := light.Compare(x.a, x.a); n != 0 {
			t.Error(x.a, n)
		}
	}
}

// TestCompareOrders: P6.5, Compare orders shades as the fractions are ordered, so that lists of them are sorted by it.
func TestCompareOrders(t *testing.T) {
	r := rand.New(rand.NewSource(103))
	equal := 0
	for range 3000 {
		var shades []api.Shade
		for range 5 {
			den := 1 + r.Intn([]int{4, 50, 1000000000}[r.Intn(3)])
			shades = append(shades, shade(r.Intn(den+1), den))
		}
		slices.SortFunc(shades, light.Compare)
		for i, b := range shades {
			for _, a := range shades[:i] {
				want := big.NewRat(int64(a.Num), int64(a.Den)).Cmp(big.NewRat(int64(b.Num), int64(b.Den)))
				if n := light.Compare(a, b); n != want || n > 0 || light.Compare(b, a) != -want {
					t.Fatal(a, b, n)
				}
				equal += count([]int{want}, 0)
			}
		}
	}
	if equal < 100 {
		t.Error(equal)
	}
}
