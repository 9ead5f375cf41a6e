package groove_test

import (
	"math/rand"
	"slices"
	"testing"

	"barleycorn/api"
	"barleycorn/groove"
)

// reversed returns a line in the other direction.
func reversed(l []api.Spot) []api.Spot {
	l = slices.Clone(l)
	slices.Reverse(l)
	return l
}

// changed returns a line with each of its spots changed.
func changed(l []api.Spot, by func(s api.Spot) api.Spot) []api.Spot {
	l = slices.Clone(l)
	for i, s := range l {
		l[i] = by(s)
	}
	return l
}

// distanceIs reports an error unless Distance gives num / den, whichever line is the first, and in whatever direction they go.
func distanceIs(t *testing.T, a, b []api.Spot, num, den int) {
	t.Helper()
	want := api.Square{Num: num, Den: den}
	for _, x := range [][2][]api.Spot{{a, b}, {b, a}, {reversed(a), b}, {a, reversed(b)}, {reversed(b), reversed(a)}} {
		if s, e := groove.Distance(x[0], x[1]); s != want || e != api.OK {
			t.Error(x, s, e, "want", want)
		}
	}
}

// TestDistanceExamples: P5.2, the chapter's examples, and distances between two ends, and between an end and the inside of a segment.
func TestDistanceExamples(t *testing.T) {
	distanceIs(t, line(0, 0, 10, 0), line(5, 3), 9, 1)
	distanceIs(t, line(0, 0, 4, 3), line(3, 0, 9, 0), 81, 25)
	distanceIs(t, line(0, 0, 10, 0), line(13, 4, 20, 30), 25, 1)
	distanceIs(t, line(0, 0, 10, 0), line(-3, -4, -20, -30), 25, 1)
	distanceIs(t, line(0, 0, 10, 0), line(12, 1), 5, 1)
	distanceIs(t, line(0, 0, 10, 0), line(10, 7), 49, 1)
	distanceIs(t, line(0, 0, 10, 0), line(9, -7), 49, 1)
	distanceIs(t, line(0, 0, 1, 1), line(1, 0), 1, 2)
	distanceIs(t, line(0, 0, 2, 4), line(2, 0), 16, 5)
	distanceIs(t, line(0, 0, 6, 2), line(2, 4, 9, 9), 10, 1)
	distanceIs(t, line(0, 0, 3, 1), line(2, 3), 49, 10)
	distanceIs(t, line(0, 0, 12, 0), line(6, 9, 7, 4, 8, 9), 16, 1)
	distanceIs(t, line(0, 0, 0, 10, 10, 10), line(5, 4, 9, 4), 25, 1)
	distanceIs(t, line(0, 0, 0, 10, 10, 10, 10, 0), line(5, 1), 25, 1)
	distanceIs(t, line(0, 0, 0, 10, 10, 10, 10, 0), line(5, -2), 29, 1)
}

// TestSpots: P5.2, lines of one spot each, and of several equal ones.
func TestSpots(t *testing.T) {
	distanceIs(t, line(3, 4), line(0, 0), 25, 1)
	distanceIs(t, line(3, 4), line(3, 4), 0, 1)
	distanceIs(t, line(-10000, -10000), line(10000, 10000), 800000000, 1)
	distanceIs(t, line(7, 7, 7, 7), line(0, 0, 7, 0), 49, 1)
	distanceIs(t, line(7, 7, 7, 7, 7, 7), line(5, 5, 5, 5), 8, 1)
	distanceIs(t, line(7, 7, 7, 7, 7, 7), line(7, 7), 0, 1)
	distanceIs(t, line(7, 7, 7, 7, 9, 7), line(9, 3), 16, 1)
	distanceIs(t, line(2, 2, 2, 2), line(0, 0, 4, 4), 0, 1)
	distanceIs(t, line(2, 3, 2, 3), line(0, 0, 4, 4), 1, 2)
	distanceIs(t, line(0, 0, 3, 4, 0, 0), line(0, 5), 9, 1)
}

// TestMeetingLines: P5.2, lines that cross, touch in a spot, lie upon each other, and run side by side.
func TestMeetingLines(t *testing.T) {
	for _, x := range [][2][]api.Spot{
		{line(0, 0, 10, 10), line(0, 10, 10, 0)}, {line(0, 0, 3, 1), line(1, 1, 2, 0)}, {line(-9, 1, 9, 2), line(0, -9, 1, 9)}, {line(0, 0, 7, 3), line(4, 1, 3, 2)},
		{line(-10000, -10000, 10000, 9999), line(-10000, 9999, 10000, -10000)}, {line(0, 0, 20, 0), line(1, 5, 1, 4, 19, 4, 19, -1)},
		{line(0, 0, 10, 0), line(5, 0, 5, 9)}, {line(0, 0, 10, 0), line(10, 0, 15, 9)}, {line(0, 0, 10, 0), line(0, 0)}, {line(0, 0, 10, 5), line(4, 2)}, {line(0, 0, 10, 5), line(4, 2, 4, 9)}, {line(1, 1, 5, 5), line(9, 0, 5, 5, 9, 9)},
		{line(0, 0, 10, 0), line(4, 0, 20, 0)}, {line(0, 0, 10, 0), line(4, 0, 6, 0)}, {line(0, 0, 10, 0), line(0, 0, 10, 0)}, {line(0, 0, 9, 6), line(3, 2, 6, 4)}, {line(0, 0, 9, 6), line(6, 4, 12, 8)}, {line(0, 0, 9, 6), line(9, 6, 12, 8)},
	} {
		distanceIs(t, x[0], x[1], 0, 1)
	}
	distanceIs(t, line(0, 0, 10, 0), line(11, 0, 20, 0), 1, 1)
	distanceIs(t, line(0, 0, 9, 6), line(12, 8, 15, 10), 13, 1)
	distanceIs(t, line(0, 0, 10, 0), line(0, 3, 10, 3), 9, 1)
	distanceIs(t, line(0, 0, 10, 0), line(3, 3, 7, 3), 9, 1)
	distanceIs(t, line(0, 0, 10, 0), line(9, 3, 30, 3), 9, 1)
	distanceIs(t, line(0, 0, 10, 0), line(11, 3, 30, 3), 10, 1)
	distanceIs(t, line(0, 0, 10, 5), line(0, 1, 10, 6), 4, 5)
	distanceIs(t, line(0, 0, 10, 0), line(0, 5, 10, 2), 4, 1)
	distanceIs(t, line(0, 0, 10, 0), line(5, 1, 5, 9), 1, 1)
	distanceIs(t, line(0, 0, 10, 0), line(11, 5, 11, -5), 1, 1)
}

// TestGreatDistances: P5.2, coordinates at their limits: squares whose products need more than 64 bits are compared.
func TestGreatDistances(t *testing.T) {
	distanceIs(t, line(-10000, -10000, 10000, 10000), line(10000, -10000), 200000000, 1)
	distanceIs(t, line(-10000, -9999, 10000, 10000), line(10000, -10000), 160000000000000000, 799960001)
	// From the first spot to the others: (20000, 19999), (19999, -1) and (20000, 0). The cross products are -20000 - 19999 * 19999 and -20000 * 19999.
	distanceIs(t, line(-10000, -9999, 10000, 10000), line(10000, -10000, 9999, -10000), 159984001199960001, 799960001)
	distanceIs(t, line(-10000, -9999, 10000, 10000), line(9999, -10000, 10000, -10000, 10000, -9999), 159984000400000000, 799960001)
	r := rand.New(rand.NewSource(62))
	limits := []int{-10000, -9999, -9998, -1, 0, 1, 9998, 9999, 10000}
	for range 1500 {
		var lines [2][]api.Spot
		for i := range lines {
			for range 1 + r.Intn(3) {
				lines[i] = append(lines[i], api.Spot{X: limits[r.Intn(9)], Y: limits[r.Intn(9)]})
			}
		}
		if s, e := groove.Distance(lines[0], lines[1]); e != api.OK || !isRat(s, squareOf(lines[0], lines[1])) {
			t.Fatal(lines, s, e)
		}
	}
}

// lineErrors are lists of spots with whether they are lines.
func lineErrors() []struct {
	l    []api.Spot
	want api.Errno
} {
	return []struct {
		l    []api.Spot
		want api.Errno
	}{
		{nil, api.ErrArg}, {[]api.Spot{}, api.ErrArg}, {line(1, 1), api.OK}, {make([]api.Spot, 12), api.OK}, {make([]api.Spot, 13), api.ErrArg}, {make([]api.Spot, 1000), api.ErrArg},
		{line(10000, 10000), api.OK}, {line(-10000, -10000), api.OK}, {line(10001, 0), api.ErrArg}, {line(0, 10001), api.ErrArg}, {line(-10001, 0), api.ErrArg}, {line(0, -10001), api.ErrArg},
		{line(0, 0, 10001, 0), api.ErrArg}, {line(0, 0, 0, -10001, 0, 0), api.ErrArg}, {line(leastInt, 0), api.ErrArg}, {line(0, greatestInt), api.ErrArg}, {append(make([]api.Spot, 11), api.Spot{X: 10000, Y: -10001}), api.ErrArg},
		{append(make([]api.Spot, 11), api.Spot{X: 10000, Y: -10000}), api.OK},
	}
}

// TestLineErrors: P5.2, lists with no spot, one, MaxCutLen and one more, and coordinates at both limits and just beyond; each of both lines is asked.
func TestLineErrors(t *testing.T) {
	for _, x := range lineErrors() {
		for _, other := range lineErrors() {
			want := max(x.want, other.want)
			if s, e := groove.Distance(x.l, other.l); e != want || e != api.OK && s != (api.Square{}) {
				t.Error(x, other, s, e)
			}
			if is, e := groove.Apart(x.l, other.l, 0); e != want || is != (e == api.OK) {
				t.Error(x, other, is, e)
			}
			if is, e := groove.Apart(x.l, other.l, -1); e != api.ErrArg || is {
				t.Error(x, other, is, e)
			}
		}
	}
}

// TestApart: P5.2, the chapter's examples, with least at 0, at the distance, just above it, at MaxApart and one more.
func TestApart(t *testing.T) {
	for _, x := range []struct {
		a, b  []api.Spot
		least int
		want  bool
	}{
		{line(0, 0, 4, 3), line(3, 0, 9, 0), 1, true}, {line(0, 0, 4, 3), line(3, 0, 9, 0), 2, false}, {line(0, 0, 4, 3), line(3, 0, 9, 0), 0, true},
		{line(0, 0), line(3, 4), 5, true}, {line(0, 0), line(3, 4), 4, true}, {line(0, 0), line(3, 4), 6, false}, {line(0, 0), line(3, 4), 0, true}, {line(0, 0), line(3, 4), 30000, false},
		{line(0, 0, 10, 10), line(0, 10, 10, 0), 0, true}, {line(0, 0, 10, 10), line(0, 10, 10, 0), 1, false}, {line(0, 0), line(1, 1), 1, true}, {line(0, 0), line(1, 1), 2, false},
		{line(0, 0, 1, 1), line(1, 0), 0, true}, {line(0, 0, 1, 1), line(1, 0), 1, false},
		{line(-10000, -10000), line(10000, 10000), 28284, true}, {line(-10000, -10000), line(10000, 10000), 28285, false}, {line(-10000, -10000), line(10000, 10000), 30000, false},
		{line(-10000, -9999, 10000, 10000), line(10000, -10000), 14142, true}, {line(-10000, -9999, 10000, 10000), line(10000, -10000), 14143, false}, {line(-10000, -9999, 10000, 10000), line(10000, -10000), 30000, false},
	} {
		if is, e := groove.Apart(x.a, x.b, x.least); is != x.want || e != api.OK {
			t.Error(x, is, e)
		}
		if is, e := groove.Apart(x.b, x.a, x.least); is != x.want || e != api.OK {
			t.Error(x, is, e)
		}
	}
	for least, want := range map[int]api.Errno{-1: api.ErrArg, 0: api.OK, 30000: api.OK, 30001: api.ErrArg, leastInt: api.ErrArg, greatestInt: api.ErrArg} {
		if is, e := groove.Apart(line(0, 0), line(1, 1), least); e != want || is != (least == 0) {
			t.Error(least, is, e)
		}
	}
}

// TestRandomDistances: P5.2 and P5.7, for random lines: the distance is the least of all points, and Apart agrees with it.
func TestRandomDistances(t *testing.T) {
	r := rand.New(rand.NewSource(63))
	fractions := 0
	for i := range 1500 {
		span := []int{2, 5, 20, 300, 10000}[i%5]
		a, b := randomLine(r, 4, span), randomLine(r, 4, span)
		if i%50 == 0 {
			a, b = randomLine(r, 12, span), randomLine(r, 12, span)
		}
		if span < 10000 && r.Intn(2) == 0 {
			b = moved(b, -span, 0)
		}
		s, e := groove.Distance(a, b)
		if e != api.OK || !isRat(s, squareOf(a, b)) {
			t.Fatal(a, b, s, e, "want", squareOf(a, b))
		}
		if s.Den > 1 {
			fractions++
		}
		for least := 0; least*least <= s.Num/s.Den; least += 1 + span/10 {
			if is, e := groove.Apart(a, b, least); !is || e != api.OK {
				t.Fatal(a, b, s, least, is, e)
			}
		}
		above := 1
		for above*above*s.Den <= s.Num && above < 30000 {
			above++
		}
		if is, e := groove.Apart(a, b, above); is || e != api.OK {
			t.Fatal(a, b, s, above, is, e)
		}
		if is, e := groove.Apart(a, b, above-1); !is || e != api.OK {
			t.Fatal(a, b, s, above-1, is, e)
		}
	}
	if fractions < 200 {
		t.Error("only", fractions)
	}
}

// TestDistanceStays: P5.7, the distance of lines is the same in another order and in other directions, and of lines that are moved, mirrored, or turned by a quarter.
func TestDistanceStays(t *testing.T) {
	r := rand.New(rand.NewSource(64))
	for i := range 500 {
		span := []int{3, 9, 60, 4000}[i%4]
		a, b := randomLine(r, 4, span), randomLine(r, 4, span)
		if i%2 == 0 {
			b = moved(b, r.Intn(2*span), r.Intn(2*span))
		}
		s, e := groove.Distance(a, b)
		s = must(t, s, e)
		x, y := r.Intn(4001)-2000, r.Intn(4001)-2000
		for name, by := range map[string]func(s api.Spot) api.Spot{
			"moved":         func(s api.Spot) api.Spot { return s },
			"mirrored in X": func(s api.Spot) api.Spot { return api.Spot{X: -s.X, Y: s.Y} },
			"mirrored in Y": func(s api.Spot) api.Spot { return api.Spot{X: s.X, Y: -s.Y} },
			"mirrored":      func(s api.Spot) api.Spot { return api.Spot{X: s.Y, Y: s.X} },
			"turned":        func(s api.Spot) api.Spot { return api.Spot{X: -s.Y, Y: s.X} },
			"turned back":   func(s api.Spot) api.Spot { return api.Spot{X: s.Y, Y: -s.X} },
		} {
			c, d := changed(a, by), changed(b, by)
			if span < 4000 {
				c, d = moved(c, x, y), moved(d, x, y)
			}
			distanceIs(t, c, d, s.Num, s.Den)
			if t.Failed() {
				t.Fatal(name, a, b)
			}
		}
	}
}

// TestSpotBetween: P5.7, a line with one more spot between two others, on their segment, is as far from all others.
func TestSpotBetween(t *testing.T) {
	r := rand.New(rand.NewSource(65))
	for range 1000 {
		var a []api.Spot
		for _, s := range randomLine(r, 6, 30) {
			a = append(a, api.Spot{X: 6 * s.X, Y: 6 * s.Y})
		}
		b := randomLine(r, 4, 200)
		s, e := groove.Distance(a, b)
		s = must(t, s, e)
		for i := range len(a) - 1 {
			for part := range 7 {
				between := api.Spot{X: a[i].X + (a[i+1].X-a[i].X)/6*part, Y: a[i].Y + (a[i+1].Y-a[i].Y)/6*part}
				longer := slices.Insert(slices.Clone(a), i+1, between)
				if c, e := groove.Distance(longer, b); c != s || e != api.OK {
					t.Fatal(a, b, between, c, e, "want", s)
				}
			}
		}
	}
}
