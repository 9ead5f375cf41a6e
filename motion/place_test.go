package motion

import (
	"math/big"
	"math/cmplx"
	"math/rand"
	"slices"
	"strings"
	"testing"

	"barleycorn/api"
	"barleycorn/exact"
)

// hypocycloid is the path of the chapter's first example.
const hypocycloid = "-2 100 0, 1 200 0"

// TestAt: P2.3, places at u.
func TestAt(t *testing.T) {
	for _, x := range []struct{ p, u, want string }{
		{hypocycloid, "0 1", "-100 200"},
		{hypocycloid, "1 0", "300 0"},
		{hypocycloid, "-1 0", "-100 0"},
		{hypocycloid, "0 -1", "-100 -200"},
		{"2 25 0", "3/5 4/5", "-7 24"},
		{"-2 25 0", "3/5 4/5", "-7 -24"},
		{"0 1/2 1/3", "3/5 -4/5", "1/2 1/3"},
		{"", "3/5 4/5", "0 0"},
		{"-1 1 0, 1 -1 0", "1 0", "0 0"},
		{"-64 1 0, 64 1 0", "0 1", "2 0"},
	} {
		if z, e := At(path(t, x.p), turn(t, x.u)); e != api.OK || turnText(t, z) != x.want {
			t.Error(x, z, e)
		}
	}
}

// TestAtExactly: P2.3, the place is the sum of C * u^K.
func TestAtExactly(t *testing.T) {
	r := rand.New(rand.NewSource(1))
	for range 60 {
		p, u := randomPath(t, r, 8, 20), unit(r)
		want := small(0, 0)
		for _, a := range p {
			want = want.plus(big2(t, a.C).times(u.power(a.K)))
		}
		z, e := At(p, u.given(t))
		if e != api.OK || !big2(t, z).equals(want) {
			t.Fatal(pathText(t, p), u, z, e)
		}
	}
}

// TestAtErrors: P2.3, the errors of At, in their order.
func TestAtErrors(t *testing.T) {
	p := path(t, hypocycloid)
	for _, u := range badTurns() {
		if z, e := At(p, u); e != api.ErrFrac {
			t.Error(u, z, e)
		}
	}
	huge := tenTo(300)
	for _, texts := range []string{"1 1", "0 0", "2 0", "1/2 1/2", "999999999999/1000000000000 0", huge + " 1", "1/" + huge + " 1/" + huge, "1/" + huge + " 1"} {
		if z, e := At(p, turn(t, texts)); e != api.ErrArg {
			t.Error(texts, z, e)
		}
	}
	// Its norm is 1, and its powers are too large.
	u, e := exact.Power(turn(t, "3/5 4/5"), 64)
	must(t, u, e)
	if z, e := At(path(t, "64 1 0"), u); e != api.ErrLarge {
		t.Error(z, e)
	}
	if z, e := At(path(t, "2 1 0, 64 1 0"), u); e != api.ErrLarge {
		t.Error(z, e)
	}
	if _, e := At(path(t, "2 1 0"), u); e != api.OK {
		t.Error(e)
	}
	// A product, and a sum, that is too large.
	if z, e := At(path(t, "1 1/"+strings.Repeat("9", 360)+" 0"), turn(t, "5/13 12/13")); e != api.ErrLarge {
		t.Error(z, e)
	}
	threes := new(big.Int).Exp(big.NewInt(3), big.NewInt(600), nil).String()
	if z, e := At(path(t, "0 1/"+tenTo(300)+" 0, 1 1/3"+tenTo(300)+" 0"), turn(t, "1 0")); e != api.OK {
		t.Error(z, e)
	}
	if z, e := At(path(t, "0 1/"+tenTo(300)+" 0, 1 1/"+threes+" 0"), turn(t, "1 0")); e != api.ErrLarge {
		t.Error(z, e)
	}
	// What the order of the calls makes too large stays so, though the whole sum is 0.
	if z, e := At(path(t, "0 1/"+tenTo(300)+" 0, 1 1/"+threes+" 0, 2 -1/"+threes+" 0, 3 -1/"+tenTo(300)+" 0"), turn(t, "1 0")); e != api.ErrLarge {
		t.Error(z, e)
	}
}

// TestPoints: P2.3, spots by their quarters and numbers around.
func TestPoints(t *testing.T) {
	for _, x := range []struct {
		p    string
		n    int
		want []api.Spot
	}{
		{hypocycloid, 1, []api.Spot{{X: 300}, {X: -100, Y: 200}, {X: -100}, {X: -100, Y: -200}}},
		{"1 100 0", 2, []api.Spot{{X: 100}, {X: 60, Y: 80}, {Y: 100}, {X: -80, Y: 60}, {X: -100}, {X: -60, Y: -80}, {Y: -100}, {X: 80, Y: -60}}},
		{"1 1 0", 3, []api.Spot{{X: 1}, {X: 1, Y: 1}, {X: 0, Y: 1}, {Y: 1}, {X: -1, Y: 1}, {X: -1}, {X: -1}, {X: -1, Y: -1}, {X: 0, Y: -1}, {Y: -1}, {X: 1, Y: -1}, {X: 1, Y: 0}}},
		{"0 1/2 -1/2", 1, []api.Spot{{X: 1}, {X: 1}, {X: 1}, {X: 1}}},
		{"0 5/2 -5/2", 1, slices.Repeat([]api.Spot{{X: 3, Y: -2}}, 4)},
		{"", 2, make([]api.Spot, 8)},
		{"0 10000 -10000", 1, slices.Repeat([]api.Spot{{X: 10000, Y: -10000}}, 4)},
	} {
		l, e := Points(path(t, x.p), x.n)
		if e != api.OK || !slices.Equal(l, x.want) {
			t.Error(x, l, e)
		}
	}
}

// TestPointsErrors: P2.3, n at 0, 1, MaxPoints and just above, and spots at MaxSpot and just outside.
func TestPointsErrors(t *testing.T) {
	p := path(t, hypocycloid)
	for n, want := range map[int]api.Errno{leastInt: api.ErrArg, -1: api.ErrArg, 0: api.ErrArg, 1: api.OK, 16: api.OK, 17: api.ErrArg, greatestInt: api.ErrArg} {
		l, e := Points(p, n)
		if e != want || e == api.OK && len(l) != 4*n || e != api.OK && len(l) != 0 {
			t.Error(n, l, e)
		}
	}
	for texts, want := range map[string]api.Errno{
		"0 10000 0":                          api.OK,
		"0 10001 0":                          api.ErrSpot,
		"0 0 10001":                          api.ErrSpot,
		"0 -10001 0":                         api.ErrSpot,
		"0 0 -10001":                         api.ErrSpot,
		"0 20000 10001":                      api.ErrSpot,
		"0 100009/10 -20001/2":               api.ErrSpot,
		"0 50002/5 -20001/2":                 api.OK,
		"0 20001/2 0":                        api.ErrSpot,
		"0 0 -50003/5":                       api.ErrSpot,
		"0 4611686018427387904 0":            api.ErrSpot,
		"0 4611686018427387905 0":            api.ErrLarge,
		"0 20000 4611686018427387905":        api.ErrLarge,
		"0 4611686018427387905 20000":        api.ErrLarge,
		"0 " + tenTo(359) + " 0":             api.ErrLarge,
		"0 -5000 0, 1 5000 0":                api.OK,
		"0 -5001 0, 1 5000 0":                api.ErrSpot, // only at u = -1
		"64 1/" + tenTo(350) + " 0":          api.OK,
		"0 -10001 0, 1 " + "1000000000 0":    api.ErrSpot,
		"0 -10001 0, 1 " + tenTo(300) + " 0": api.ErrLarge,
	} {
		if l, e := Points(path(t, texts), 1); e != want || (e != api.OK && len(l) != 0) {
			t.Error(texts, l, e)
		}
	}
	// The errors come spot by spot: at u = 1 all is well, or there is no spot, and at u = 3/5 + 4/5 i a number is too large.
	for texts, want := range map[string]api.Errno{
		"64 1/" + tenTo(350) + " 0":            api.ErrLarge,
		"0 10001 0, 64 1/" + tenTo(350) + " 0": api.ErrSpot,
	} {
		if l, e := Points(path(t, texts), 2); e != want {
			t.Error(texts, l, e)
		}
	}
}

// TestPointsNear: P2.3 and P2.9, the spots are those at i^q * Around(s, n), in this order, each within half a unit of the place.
func TestPointsNear(t *testing.T) {
	r := rand.New(rand.NewSource(2))
	half := big.NewRat(1, 2)
	for n := 1; n <= api.MaxPoints; n++ {
		p := randomPath(t, r, 6, 12)
		l, e := Points(p, n)
		must(t, l, e)
		for i, spot := range l {
			q, s := i/n, i%n
			around := gauss{big.NewRat(int64(n), 1), big.NewRat(int64(s), 1)}
			u := small(0, 1).power(q).times(around.over(around.mirrored()))
			place := small(0, 0)
			for _, a := range p {
				place = place.plus(big2(t, a.C).times(u.power(a.K)))
			}
			off := small(int64(spot.X), int64(spot.Y)).plus(place.times(small(-1, 0)))
			if off.x.Abs(off.x).Cmp(half) > 0 || off.y.Abs(off.y).Cmp(half) > 0 {
				t.Fatal(pathText(t, p), n, i, spot, place)
			}
		}
	}
}

// TestPlacesAbout: P2.3, exact places are those that floats give.
func TestPlacesAbout(t *testing.T) {
	r := rand.New(rand.NewSource(3))
	for range 30 {
		p, u := randomPath(t, r, 10, 30), unit(r)
		z, e := At(p, u.given(t))
		must(t, z, e)
		want := placeAbout(t, p, cmplx.Phase(u.about()))
		if cmplx.Abs(big2(t, z).about()-want) > 1e-9 {
			t.Fatal(pathText(t, p), u, z, want)
		}
	}
}
