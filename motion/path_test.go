package motion

import (
	"testing"

	"barleycorn/api"
	"barleycorn/exact"
)

// longestPath returns a path with MaxArms arms, and K from -MaxK to MaxK.
func longestPath(t *testing.T) []api.Arm {
	t.Helper()
	var p []api.Arm
	for i := range api.MaxArms {
		p = append(p, api.Arm{K: -64 + 5*i, C: turn(t, "0 -1/2")})
	}
	p[len(p)-1].K = 64
	return p
}

// TestCheckPath: P2.1, for valid paths at the limits, and for lists that are not valid.
func TestCheckPath(t *testing.T) {
	for _, p := range [][]api.Arm{nil, {}, longestPath(t), path(t, "-64 0 1, 64 1 0"), path(t, "0 1/3 -2"), path(t, "5 "+tenTo(359)+" 1/"+tenTo(359))} {
		if e := CheckPath(p); e != api.OK {
			t.Error(p, e)
		}
	}
	for name, bad := range badPaths(t) {
		if e := CheckPath(bad.p); e != bad.e {
			t.Error(name, e)
		}
	}
}

// TestPathsFirst: P2.1 and R1, the error of a path stands before all others; of p before that of q.
func TestPathsFirst(t *testing.T) {
	good, noTurn, noFrac := path(t, "1 1 0"), api.Turn{}, api.Frac{}
	for name, bad := range badPaths(t) {
		for call, e := range map[string]api.Errno{
			"At":      second(At(bad.p, noTurn)),
			"Points":  second(Points(bad.p, -1)),
			"Times":   second(Times(bad.p)),
			"Order":   second(Order(bad.p)),
			"Mirrors": second(Mirrors(bad.p)),
			"Same":    second(Same(bad.p, bad.p, 8)),
			"Same p":  second(Same(bad.p, good, 8)),
			"Same q":  second(Same(good, bad.p, 8)),
			"Stops":   second(Stops(bad.p)),
			"Inside":  second(Inside(bad.p, noFrac)),
		} {
			if e != bad.e {
				t.Error(name, call, e)
			}
		}
	}
	long, wrong := make([]api.Arm, 25), make([]api.Arm, 1)
	if e := second(Same(wrong, long, 0)); e != api.ErrPath {
		t.Error(e)
	}
	if e := second(Same(long, wrong, 0)); e != api.ErrMany {
		t.Error(e)
	}
}

// TestTimesAndOrder: P2.4, for ordinary paths, no arms, one arm, and K = 0 among others.
func TestTimesAndOrder(t *testing.T) {
	for _, x := range []struct {
		p            string
		times, order int
	}{
		{"", 0, 0},
		{"0 5 1", 0, 1},
		{"0 1 0", 0, 1},
		{"1 2 0", 1, 0},
		{"-7 2 1", 7, 0},
		{"-64 2 1", 64, 0},
		{"-2 100 0, 1 200 0", 1, 3},
		{"-4 100 0, 2 200 0", 2, 3},
		{"-4 30 0, 1 400 0, 6 30 0", 1, 5},
		{"0 1 0, 6 1 0", 6, 1},
		{"0 1 0, 6 1 0, 9 2 0", 3, 1},
		{"-1 1 0, 1 0 1", 1, 2},
		{"4 1 0, 10 1 0, 16 1 0", 2, 3},
		{"-64 1 0, 64 1 0", 64, 2},
		{"-63 1 0, 64 1 0", 1, 127},
		{"10 1 0, 16 1 1, 25 1 1", 1, 3},
	} {
		p := path(t, x.p)
		if n, e := Times(p); n != x.times || e != api.OK {
			t.Error(x.p, "Times", n, e)
		}
		if n, e := Order(p); n != x.order || e != api.OK {
			t.Error(x.p, "Order", n, e)
		}
	}
}

// TestOrderByTrying: P2.4, Order is the number of v^K for the v that are the same for all K, found by trying.
func TestOrderByTrying(t *testing.T) {
	one := turn(t, "1 0")
	for a := -6; a <= 6; a++ {
		for b := a + 1; b <= 7; b++ {
			for c := b; c <= 8; c++ {
				p := []api.Arm{{K: a, C: one}, {K: b, C: one}}
				if c > b {
					p = append(p, api.Arm{K: c, C: one})
				}
				found := map[int]bool{}
				const parts = 2 * 2 * 2 * 3 * 3 * 5 * 7 * 11 * 13 // of a turn: a multiple of all differences
				for v := 0; v < parts; v += parts / (b - a) {
					at := func(k int) int { return ((v*k)%parts + parts) % parts }
					if at(a) == at(b) && at(a) == at(c) {
						found[at(a)] = true
					}
				}
				if n, e := Order(p); n != len(found) || e != api.OK {
					t.Error(a, b, c, n, e, len(found))
				}
			}
		}
	}
}

// TestLargeNumbers: P2.4, Times and Order are told for paths that are not plain, too; the others say ErrLarge.
func TestLargeNumbers(t *testing.T) {
	p := path(t, "-2 "+tenTo(300)+" 0, 1 1/"+tenTo(300)+" 0")
	if n, e := Times(p); n != 1 || e != api.OK {
		t.Error(n)
	}
	if n, e := Order(p); n != 3 || e != api.OK {
		t.Error(n)
	}
	for name, e := range map[string]api.Errno{
		"Mirrors": second(Mirrors(p)),
		"Same":    second(Same(p, p, 0)),
		"Stops":   second(Stops(p)),
		"Inside":  second(Inside(p, exact.FromInt(1))),
	} {
		if e != api.ErrLarge {
			t.Error(name, e)
		}
	}
}

// TestPlain: the limit of plain paths in the calls that need them: Num and Den at MaxPlain and just below it, and the least common multiple of all Den.
func TestPlain(t *testing.T) {
	for texts, plain := range map[string]bool{
		"1 999999999 0":                         true,
		"1 -999999999 999999999":                true,
		"1 1000000000 0":                        false,
		"1 0 -1000000000":                       false,
		"1 1/999999999 0":                       true,
		"1 0 -1/999999999":                      true,
		"1 1/1000000000 0":                      false,
		"1 0 1/1000000000":                      false,
		"1 999999999/999999998 0":               true,
		"1 1000000001/2 0":                      false,
		"1 1/31622 1/31623":                     true,
		"1 1/31623 1/31624":                     false,
		"1 1/31622 0, 2 0 1/31623":              true,
		"1 1/31623 0, 2 1/31624 0":              false,
		"1 1/999999999 1/333333333, 2 1/9 1/27": true,
		"1 1/999999998 0, 2 1/3 0":              false,
		"1 1/500000000 0, 2 1/1000 1/7":         false,
		"1 1/500000000 0, 2 1/125 1/2":          true,
		"1 1 0, 2 1/1000000000 0":               false,
		"1 1/512 1/1953125":                     false,
	} {
		want := api.OK
		if !plain {
			want = api.ErrLarge
		}
		p, other := path(t, texts), path(t, "1 1 0")
		for name, e := range map[string]api.Errno{
			"Mirrors": second(Mirrors(p)),
			"Same p":  second(Same(p, other, 0)),
			"Same q":  second(Same(other, p, 0)),
			"Stops":   second(Stops(p)),
			"Inside":  second(Inside(p, exact.FromInt(1))),
		} {
			if e != want {
				t.Error(texts, name, e)
			}
		}
	}
}
