package light_test

import (
	"math/big"
	"math/rand"
	"slices"
	"testing"

	"barleycorn/api"
	"barleycorn/groove"
	"barleycorn/light"
)

// cut returns a cut along some coordinates, two for each spot.
func cut(press int, n ...int) api.Cut {
	c := api.Cut{Press: press}
	for i := 0; i+1 < len(n); i += 2 {
		c.Spots = append(c.Spots, api.Spot{X: n[i], Y: n[i+1]})
	}
	return c
}

// deepTool is a tool whose depths are the pressure.
func deepTool(tip, num, den int) api.Tool { return api.Tool{Tip: tip, Num: num, Den: den, Bite: 100} }

// workOf returns a work of some cuts.
func workOf(tool api.Tool, cuts ...api.Cut) api.Work {
	return api.Work{Tool: tool, Wall: 1, Cuts: cuts}
}

// at returns a spot.
func at(x, y int) api.Spot { return api.Spot{X: x, Y: y} }

// highOf returns the high depth for a pressure, counted up as chapter 5 has it.
func highOf(t api.Tool, press int) int {
	d := 0
	for (d+1)*100 <= press*t.Bite {
		d++
	}
	return d + t.Slack
}

// squareOf returns the square of the distance of a spot from a line.
func squareOf(p api.Spot, line []api.Spot) *big.Rat {
	var least *big.Rat
	for i := range max(len(line)-1, 1) {
		a, b := line[i], line[min(i+1, len(line)-1)]
		along := new(big.Rat) // where the nearest point is, from 0 at a to 1 at b
		if length := (b.X-a.X)*(b.X-a.X) + (b.Y-a.Y)*(b.Y-a.Y); length > 0 {
			along = big.NewRat(int64((p.X-a.X)*(b.X-a.X)+(p.Y-a.Y)*(b.Y-a.Y)), int64(length))
		}
		if along.Sign() < 0 {
			along = new(big.Rat)
		} else if along.Cmp(big.NewRat(1, 1)) > 0 {
			along = big.NewRat(1, 1)
		}
		square := new(big.Rat)
		for _, c := range [][3]int{{p.X, a.X, b.X}, {p.Y, a.Y, b.Y}} {
			off := new(big.Rat).Mul(along, big.NewRat(int64(c[2]-c[1]), 1))
			off.Sub(off, big.NewRat(int64(c[0]-c[1]), 1))
			square.Add(square, off.Mul(off, off))
		}
		if least == nil || square.Cmp(least) < 0 {
			least = square
		}
	}
	return least
}

// depthOf returns the depth of a cut at a spot, as the chapter has it.
func depthOf(t api.Tool, c api.Cut, p api.Spot) int {
	depth, high, square := 0, highOf(t, c.Press), squareOf(p, c.Spots)
	for e := 1; e <= high; e++ {
		most := new(big.Rat).Add(big.NewRat(int64(t.Tip), 1), big.NewRat(int64((high-e)*t.Num), int64(t.Den)))
		if square.Cmp(most.Mul(most, most)) <= 0 {
			depth = e
		}
	}
	return depth
}

// carvedOf returns the surface into which a work is carved.
func carvedOf(w api.Work, first api.Spot, pitch, width, height int) api.Surface {
	s := api.Surface{W: width, H: height, Pitch: pitch}
	for i := range width * height {
		p, depth := at(first.X+i%width*pitch, first.Y+i/width*pitch), 0
		for _, c := range w.Cuts {
			depth = max(depth, depthOf(w.Tool, c, p))
		}
		s.Heights = append(s.Heights, -depth)
	}
	return s
}

// areSame reports whether two surfaces are the same.
func areSame(a, b api.Surface) bool {
	return a.W == b.W && a.H == b.H && a.Pitch == b.Pitch && slices.Equal(a.Heights, b.Heights)
}

// carveIs reports an error unless a work is carved into a valid surface with some heights.
func carveIs(t *testing.T, w api.Work, first api.Spot, pitch, width, height int, want ...int) {
	t.Helper()
	s, e := light.Carve(w, first, pitch, width, height)
	if e != api.OK || !areSame(s, api.Surface{W: width, H: height, Pitch: pitch, Heights: want}) || light.Check(s) != api.OK {
		t.Error(w, first, pitch, width, height, "gives", s, e, "want", want)
	}
}

// carveFails reports an error unless Carve gives an error, and no surface.
func carveFails(t *testing.T, w api.Work, first api.Spot, pitch, width, height int, want api.Errno) {
	t.Helper()
	s, e := light.Carve(w, first, pitch, width, height)
	if e != want || e != api.OK && !areSame(s, api.Surface{}) {
		t.Error(first, pitch, width, height, "gives", s, e, "want", want)
	}
}

// TestCarveExamples: P6.3, no cut, one, and several that lie upon each other or meet.
func TestCarveExamples(t *testing.T) {
	tool := deepTool(1, 1, 2)
	line := cut(4, 0, 0, 0, 90) // the depth 4 up to 1, 3 up to 3/2, 2 up to 2, 1 up to 5/2
	carveIs(t, workOf(tool), at(0, 0), 7, 3, 2, all(6, 0)...)
	carveIs(t, workOf(tool, line), at(0, 0), 1, 4, 2, -4, -4, -2, 0, -4, -4, -2, 0)
	carveIs(t, workOf(tool, line), at(-4, 5), 1, 4, 3, 0, 0, -2, -4, 0, 0, -2, -4, 0, 0, -2, -4)
	carveIs(t, workOf(tool, line), at(0, 90), 1, 3, 4, -4, -4, -2, -4, -3, -1, -2, -1, 0, 0, 0, 0) // the root of 2 is less than 3/2, that of 5 than 5/2, that of 8 more
	carveIs(t, workOf(tool, line, line), at(0, 0), 1, 4, 2, -4, -4, -2, 0, -4, -4, -2, 0)
	carveIs(t, workOf(tool, line, cut(2, 0, 0, 0, 90)), at(0, 0), 1, 4, 2, -4, -4, -2, 0, -4, -4, -2, 0)
	carveIs(t, workOf(tool, cut(2, 0, 0, 0, 90), line), at(0, 0), 1, 4, 2, -4, -4, -2, 0, -4, -4, -2, 0)
	carveIs(t, workOf(tool, line, cut(2, 3, 0, 3, 90)), at(0, 0), 1, 6, 2, -4, -4, -2, -2, -2, 0, -4, -4, -2, -2, -2, 0)
	carveIs(t, workOf(tool, line, cut(6, 0, 4)), at(0, 0), 2, 2, 5, -4, -2, -4, -2, -6, -4, -4, -2, -4, -2) // the spot has the depth 4 up to 2, and 2 up to 3
	carveIs(t, workOf(tool, cut(0, 0, 0, 0, 90)), at(0, 0), 1, 2, 2, 0, 0, 0, 0)                            // no depth
	carveIs(t, workOf(tool, cut(1, 0, 0, 0, 90)), at(0, 0), 1, 3, 2, -1, -1, 0, -1, -1, 0)
	carveIs(t, workOf(deepTool(0, 1, 1), cut(3, 0, 0)), at(0, 0), 1, 4, 4, -3, -2, -1, 0, -2, -1, 0, 0, -1, 0, 0, 0, 0, 0, 0, 0)
	carveIs(t, workOf(deepTool(0, 1, 100), cut(100, 0, 0)), at(0, 0), 1, 2, 2, -100, 0, 0, 0) // at 1 it would have the depth 0
	carveIs(t, workOf(deepTool(1, 1, 100), cut(100, 0, 0)), at(0, 0), 1, 3, 2, -100, -100, 0, -100, -58, 0)
}

// TestSlack: P6.3, the depth of a cut is that with the high depth: with Slack.
func TestSlack(t *testing.T) {
	tool := api.Tool{Tip: 0, Num: 1, Den: 1, Bite: 50, Slack: 3}
	carveIs(t, workOf(tool, cut(4, 0, 0)), at(0, 0), 1, 7, 2, -5, -4, -3, -2, -1, 0, 0, -4, -3, -2, -1, 0, 0, 0)
	carveIs(t, workOf(tool, cut(5, 0, 0)), at(0, 0), 1, 2, 2, -5, -4, -4, -3)
	carveIs(t, workOf(tool, cut(0, 0, 0)), at(0, 0), 1, 2, 2, -3, -2, -2, -1)
}

// TestOtherFields: P6.3, what has to be kept by a work does not matter: neither walls, nor its Deepest, nor the foot, nor whether cuts may cross.
func TestOtherFields(t *testing.T) {
	w := workOf(deepTool(1, 1, 2), cut(40, 0, 0, 9, 9), cut(30, 9, 0, 0, 9))
	s, e := light.Carve(w, at(-2, -2), 1, 13, 13)
	s = must(t, s, e)
	other := api.Work{Tool: w.Tool, Wall: 1000, Deepest: 20000, Play: 100, Foot: at(1000, -1000), FootHalf: 1000, FootDepth: 7, Cuts: slices.Clone(w.Cuts)}
	other.Cuts[0].Cross, other.Cuts[1].Cross = true, true
	carveIs(t, other, at(-2, -2), 1, 13, 13, s.Heights...)
	slices.Reverse(other.Cuts)
	carveIs(t, other, at(-2, -2), 1, 13, 13, s.Heights...)
}

// TestJustWithin: P6.3, spots that are just as far from the line as a depth reaches, and just beyond; the quotient is not rounded.
func TestJustWithin(t *testing.T) {
	for _, x := range []struct {
		tool  api.Tool
		c     api.Cut
		p     api.Spot
		depth int
	}{
		{deepTool(1, 2, 3), cut(7, 0, 0, 20, 0), at(5, 3), 4},  // 1 + 3 * 2/3
		{deepTool(1, 2, 3), cut(7, 0, 0, 20, 0), at(5, 5), 1},  // 1 + 6 * 2/3
		{deepTool(1, 2, 3), cut(7, 0, 0, 20, 0), at(5, 6), 0},  // more than that
		{deepTool(1, 2, 3), cut(6, 0, 0, 20, 0), at(5, 5), 0},  // 1 + 5 * 2/3 is less than 5, and would be more with 1 as 0
		{deepTool(0, 1, 5), cut(9, 0, 0, 30, 40), at(4, 5), 8}, // 1/5
		{deepTool(0, 1, 5), cut(9, 0, 0, 30, 40), at(5, 5), 4}, // 5/5
		{deepTool(0, 1, 5), cut(9, 0, 0, 30, 40), at(5, 4), 1}, // 8/5
		{deepTool(0, 1, 5), cut(9, 0, 0, 30, 40), at(6, 5), 0}, // 9/5 would have the depth 0
		{deepTool(0, 3, 5), cut(4, 0, 0, 30, 40), at(6, 5), 1}, // 9/5
		{deepTool(0, 3, 5), cut(4, 0, 0, 30, 40), at(7, 6), 0}, // 10/5
		{deepTool(5, 1, 1), cut(3, 0, 0), at(3, 4), 3},         // 5
		{deepTool(5, 1, 1), cut(3, 0, 0), at(4, 4), 2},         // the root of 32
		{deepTool(5, 1, 1), cut(3, 0, 0), at(5, 5), 0},         // the root of 50 is more than 7
		{deepTool(5, 1, 1), cut(3, 0, 0), at(0, 7), 1},         // 7
		{deepTool(5, 1, 1), cut(3, 0, 0), at(2, 7), 0},         // the root of 53
		{deepTool(99, 1, 1), cut(2, 0, 0), at(60, 80), 1},      // 100
		{deepTool(99, 1, 1), cut(2, 0, 0), at(60, 81), 0},      // more than 100
		{deepTool(99, 1, 1), cut(2, 0, 0), at(-28, -96), 1},    // 100
		{deepTool(0, 100, 100), cut(100, 0, 0), at(99, 0), 1},  // the last depth
		{deepTool(0, 100, 100), cut(100, 0, 0), at(100, 0), 0}, // beyond
		{deepTool(100, 100, 100), cut(100, 0, 0), at(199, 0), 1},
		{deepTool(100, 100, 100), cut(100, 0, 0), at(200, 0), 0},
		{deepTool(100, 99, 100), cut(100, 0, 0, 9, 0), at(5, 198), 1}, // 100 + 98.01
		{deepTool(100, 99, 100), cut(100, 0, 0, 9, 0), at(5, 199), 0},
		{deepTool(100, 1, 100), cut(100, 0, 0, 9, 0), at(5, 100), 100},
		{deepTool(100, 1, 100), cut(100, 0, 0, 9, 0), at(5, 101), 0}, // 100 + 99/100
	} {
		if d := depthOf(x.tool, x.c, x.p); d != x.depth {
			t.Error(x, d)
		}
		s, e := light.Carve(workOf(x.tool, x.c), x.p, 1, 2, 2)
		if s = must(t, s, e); s.Heights[0] != -x.depth {
			t.Error(x, s.Heights[0])
		}
	}
}

// TestCarveLimits: P6.3, the first spot, the pitch, the width and the height at their limits and just beyond them, and far away.
func TestCarveLimits(t *testing.T) {
	w := workOf(deepTool(1, 1, 2), cut(4, 0, 0, 0, 90))
	for n, isValid := range (limit[int]{"X", nil, -10000, 10000}).around() {
		want := api.OK
		if !isValid {
			want = api.ErrArg
		} else if n > 9999 {
			want = api.ErrNone
		}
		carveFails(t, w, at(n, 0), 1, 2, 2, want)
		carveFails(t, w, at(0, n), 1, 2, 2, want)
	}
	for n, isValid := range (limit[int]{"pitch", nil, 1, 100}).around() {
		carveFails(t, w, at(0, 0), n, 2, 2, map[bool]api.Errno{true: api.OK, false: api.ErrArg}[isValid])
	}
	for n, isValid := range (limit[int]{"side", nil, 2, 24}).around() {
		want := map[bool]api.Errno{true: api.OK, false: api.ErrArg}[isValid]
		carveFails(t, w, at(0, 0), 3, n, 2, want)
		carveFails(t, w, at(0, 0), 3, 2, n, want)
	}
	carveFails(t, w, at(0, 0), 100, 24, 24, api.OK)
	carveFails(t, w, at(-10000, -10000), 100, 24, 24, api.OK)
}

// TestLastPoints: P6.3, points of a surface that are just spots, and just not, on either side.
func TestLastPoints(t *testing.T) {
	w := workOf(deepTool(0, 1, 1), cut(3, 10000, 10000))
	carveIs(t, w, at(9998, 9998), 2, 2, 2, 0, -1, -1, -3)
	carveIs(t, w, at(9999, 9998), 1, 2, 3, 0, -1, -1, -2, -2, -3)
	for _, x := range []struct {
		first                api.Spot
		pitch, width, height int
		want                 api.Errno
	}{
		{at(9999, 9999), 1, 2, 2, api.OK}, {at(10000, 9999), 1, 2, 2, api.ErrNone}, {at(9999, 10000), 1, 2, 2, api.ErrNone}, {at(10000, 10000), 1, 2, 2, api.ErrNone},
		{at(9998, 0), 1, 3, 2, api.OK}, {at(9998, 0), 1, 4, 2, api.ErrNone}, {at(9998, 0), 2, 3, 2, api.ErrNone}, {at(0, 9998), 1, 2, 3, api.OK}, {at(0, 9998), 1, 2, 4, api.ErrNone}, {at(0, 9998), 2, 2, 3, api.ErrNone},
		{at(7700, 7700), 100, 24, 24, api.OK}, {at(7701, 7700), 100, 24, 24, api.ErrNone}, {at(7700, 7701), 100, 24, 24, api.ErrNone}, {at(7701, 0), 100, 23, 24, api.OK}, {at(0, 7701), 100, 24, 23, api.OK},
		{at(-10000, -10000), 1, 2, 2, api.OK}, {at(-10000, 10000), 1, 2, 2, api.ErrNone}, {at(10000, -10000), 1, 2, 2, api.ErrNone},
	} {
		carveFails(t, w, x.first, x.pitch, x.width, x.height, x.want)
	}
}

// TestHighDepth: P6.3, high depths at MaxHeight and one more, of any of the cuts.
func TestHighDepth(t *testing.T) {
	for _, n := range []int{1, 2, 16} {
		for i := range n {
			for press, want := range map[int]api.Errno{99: api.OK, 100: api.OK, 101: api.ErrArg, 1000: api.ErrArg} {
				w := workOf(deepTool(1, 1, 2))
				for k := range n {
					w.Cuts = append(w.Cuts, cut(5, 10*k, 0))
				}
				w.Cuts[i].Press = press
				carveFails(t, w, at(0, 0), 1, 24, 24, want)
			}
		}
	}
	for slack, want := range map[int]api.Errno{98: api.OK, 99: api.ErrArg, 1000: api.ErrArg} {
		tool := deepTool(1, 1, 2)
		tool.Slack = slack
		carveFails(t, workOf(tool, cut(2, 0, 0)), at(0, 0), 1, 2, 2, want)
		carveFails(t, workOf(tool), at(0, 0), 1, 2, 2, api.OK) // there is no cut
	}
	tool := api.Tool{Num: 1, Den: 1, Bite: 1000, Slack: 1000}
	carveFails(t, workOf(tool, cut(1000, 0, 0)), at(0, 0), 1, 2, 2, api.ErrArg)
	tool = api.Tool{Num: 1, Den: 1, Bite: 1000}
	carveIs(t, workOf(tool, cut(10, 0, 0)), at(0, 0), 100, 2, 2, -100, 0, 0, 0)
	carveFails(t, workOf(tool, cut(11, 0, 0)), at(0, 0), 1, 2, 2, api.ErrArg)
}

// TestCarveErrors: P6.3, the errors in the order in which they are named, where several apply.
func TestCarveErrors(t *testing.T) {
	good := workOf(deepTool(1, 1, 2), cut(4, 0, 0))
	for i := range 4 * 3 * 3 * 3 * 3 {
		w, first, pitch, width, height, want := good, at(0, 0), 1, 2, 2, api.OK
		isOff := i%4 == 3
		if isOff {
			first = at(9999, 9999)
			pitch = 2
			want = api.ErrNone
		}
		if i/4%3 == 1 {
			pitch, want = 101, api.ErrArg
		} else if i/4%3 == 2 {
			first, want = at(10001, -10001), api.ErrArg
		}
		if i/12%3 == 1 {
			width, want = 25, api.ErrArg
		} else if i/12%3 == 2 {
			height, want = 1, api.ErrArg
		}
		if i/36%3 == 1 {
			w.Cuts, want = []api.Cut{cut(4, 0, 0), cut(101, 0, 0)}, api.ErrArg
		}
		switch i / 108 {
		case 1:
			w.Wall, want = 0, api.ErrWork
		case 2:
			w.Tool.Num, want = 3, api.ErrWork
		}
		carveFails(t, w, first, pitch, width, height, want)
	}
	for _, change := range []func(w *api.Work){
		func(w *api.Work) { w.Tool = api.Tool{} },
		func(w *api.Work) { w.Deepest = -1 },
		func(w *api.Work) { w.Play = 101 },
		func(w *api.Work) { w.Foot.X = 1001 },
		func(w *api.Work) { w.FootHalf = 1001 },
		func(w *api.Work) { w.FootDepth = -1 },
		func(w *api.Work) { w.Cuts = all(17, cut(1, 0, 0)) },
		func(w *api.Work) { w.Cuts = []api.Cut{{Press: 1}} },
		func(w *api.Work) { w.Cuts = []api.Cut{cut(1001, 0, 0)} },
		func(w *api.Work) { w.Cuts = []api.Cut{cut(-1, 0, 0)} },
		func(w *api.Work) { w.Cuts = []api.Cut{cut(1, 10001, 0)} },
	} {
		w := good
		change(&w)
		if e := groove.Check(w); e != api.ErrWork {
			t.Error(w, e)
		}
		carveFails(t, w, at(0, 0), 1, 2, 2, api.ErrWork)
		carveFails(t, w, at(10001, 0), 0, 1, 25, api.ErrWork)
	}
}

// randomCarving returns a work with high depths up to MaxHeight, and where it is carved: near to its cuts.
func randomCarving(r *rand.Rand, span int) (w api.Work, first api.Spot, pitch, width, height int) {
	tool := api.Tool{Tip: r.Intn([]int{3, 101}[r.Intn(2)]), Den: 1 + r.Intn(100), Bite: 1 + r.Intn(200), Slack: r.Intn(10)}
	if r.Intn(2) == 0 {
		tool.Den = 1 + r.Intn(6)
	}
	tool.Num = 1 + r.Intn(tool.Den)
	w = workOf(tool)
	for range r.Intn(5) {
		c := cut(r.Intn(min(90*100/tool.Bite, 1000) + 1))
		for range 1 + r.Intn(4) {
			c.Spots = append(c.Spots, at(r.Intn(2*span+1)-span, r.Intn(2*span+1)-span))
		}
		w.Cuts = append(w.Cuts, c)
	}
	width, height, pitch = 2+r.Intn(8), 2+r.Intn(8), 1+r.Intn(min(100, 1+span/4))
	first = at(r.Intn(2*span+1)-span, r.Intn(2*span+1)-span)
	if len(w.Cuts) > 0 && r.Intn(4) > 0 { // near to a point of a line
		l := w.Cuts[r.Intn(len(w.Cuts))].Spots
		a, b, k := l[0], l[len(l)-1], r.Intn(5)
		first = at(a.X+(b.X-a.X)/4*k-r.Intn(width*pitch), a.Y+(b.Y-a.Y)/4*k-r.Intn(height*pitch))
	}
	first.X = max(min(first.X, 10000-(width-1)*pitch), -10000)
	first.Y = max(min(first.Y, 10000-(height-1)*pitch), -10000)
	return w, first, pitch, width, height
}

// TestRandomCarvings: P6.3, random works, also such whose squares of distances have many digits.
func TestRandomCarvings(t *testing.T) {
	r := rand.New(rand.NewSource(110))
	carved := 0
	for i := range 600 {
		w, first, pitch, width, height := randomCarving(r, []int{4, 30, 300, 10000}[i%4])
		want := carvedOf(w, first, pitch, width, height)
		carveIs(t, w, first, pitch, width, height, want.Heights...)
		if t.Failed() {
			t.FailNow()
		}
		carved += len(want.Heights) - count(want.Heights, 0)
	}
	if carved < 5000 {
		t.Error(carved)
	}
}

// TestFarSpots: P6.3 and R5, the squares of the distances of far spots from long lines, multiplied by that of Den, have more than 64 bits.
func TestFarSpots(t *testing.T) {
	r := rand.New(rand.NewSource(111))
	for range 100 {
		w := workOf(deepTool(100, 99, 100), cut(100, -10000, -9999+r.Intn(5), 10000, 10000-r.Intn(5)))
		carveIs(t, w, at(7700, -10000+r.Intn(99)), 100, 24, 24, all(24*24, 0)...)
		carveIs(t, w, at(-10000+r.Intn(99), 7700), 100, 24, 24, all(24*24, 0)...)
	}
}

// TestDepths: P6.8, what is carved is nowhere deeper than the high depths of its cuts, and nowhere else than within their reaches; more cuts make no point higher.
func TestDepths(t *testing.T) {
	r := rand.New(rand.NewSource(112))
	for i := range 400 {
		w, first, pitch, width, height := randomCarving(r, []int{10, 100}[i%2])
		before := all(width*height, 0)
		for n := range len(w.Cuts) + 1 {
			fewer := w
			fewer.Cuts = w.Cuts[:n]
			s, e := light.Carve(fewer, first, pitch, width, height)
			s = must(t, s, e)
			for k, h := range s.Heights {
				p, deepest := []api.Spot{at(first.X+k%width*pitch, first.Y+k/width*pitch)}, 0
				for _, c := range fewer.Cuts {
					_, high, e := groove.Depth(w.Tool, c.Press)
					reach, f := groove.Half(w.Tool, must(t, high, e))
					isBeyond, g := groove.Apart(c.Spots, p, must(t, reach, f)+1)
					if !must(t, isBeyond, g) {
						deepest = max(deepest, high)
					}
				}
				if h > before[k] || -h > deepest {
					t.Fatal(fewer, p, h, before[k], deepest)
				}
			}
			before = s.Heights
		}
	}
}

// TestMovedWork: P6.8, a work that is moved by whole pitches is carved as far moved.
func TestMovedWork(t *testing.T) {
	r := rand.New(rand.NewSource(113))
	for i := range 300 {
		w, first, pitch, width, height := randomCarving(r, []int{10, 100}[i%2])
		s, e := light.Carve(w, first, pitch, width, height)
		s = must(t, s, e)
		dx, dy := r.Intn(width), r.Intn(height)
		moved := w
		moved.Cuts = nil
		for _, c := range w.Cuts {
			c.Spots = slices.Clone(c.Spots)
			for k := range c.Spots {
				c.Spots[k].X += dx * pitch
				c.Spots[k].Y += dy * pitch
			}
			moved.Cuts = append(moved.Cuts, c)
		}
		other, e := light.Carve(moved, first, pitch, width, height)
		other = must(t, other, e)
		for y := dy; y < height; y++ {
			for x := dx; x < width; x++ {
				if heightOf(other, x, y) != heightOf(s, x-dx, y-dy) {
					t.Fatal(w, first, pitch, dx, dy, s, other)
				}
			}
		}
		carveIs(t, moved, at(first.X+dx*pitch, first.Y+dy*pitch), pitch, width, height, s.Heights...)
	}
}
