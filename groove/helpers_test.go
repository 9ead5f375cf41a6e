package groove_test

import (
	"math/big"
	"math/rand"
	"slices"
	"testing"

	"barleycorn/api"
	"barleycorn/groove"
)

// The least and the greatest int.
const (
	leastInt    = -1 << 63
	greatestInt = 1<<63 - 1
)

// must returns a result that has to come without an error.
func must[T any](t *testing.T, result T, e api.Errno) T {
	t.Helper()
	if e != api.OK {
		t.Fatalf("error %d", e)
	}
	return result
}

// is reports an error unless a call has given a list.
func is[V comparable](t *testing.T, what any, l []V, e api.Errno, want ...V) {
	t.Helper()
	if e != api.OK || !slices.Equal(l, want) {
		t.Error(what, l, e, "want", want)
	}
}

// all returns a list of n times the same number.
func all(n, h int) []int { return slices.Repeat([]int{h}, n) }

// chapterTool is the tool of the chapter's examples.
func chapterTool() api.Tool { return api.Tool{Tip: 2, Num: 1, Den: 2, Bite: 50, Slack: 3} }

// evenTool is a tool whose depths, and whose half, are the pressure: so is the reach of each cut.
func evenTool() api.Tool { return api.Tool{Tip: 0, Num: 1, Den: 1, Bite: 100, Slack: 0} }

// line returns the line of some coordinates, two for each spot.
func line(n ...int) []api.Spot {
	var l []api.Spot
	for i := 0; i+1 < len(n); i += 2 {
		l = append(l, api.Spot{X: n[i], Y: n[i+1]})
	}
	return l
}

// cut returns a cut that may not cross others.
func cut(press int, n ...int) api.Cut { return api.Cut{Spots: line(n...), Press: press} }

// crossing returns a cut that may cross others.
func crossing(press int, n ...int) api.Cut {
	return api.Cut{Spots: line(n...), Press: press, Cross: true}
}

// even returns a work with the even tool, in which no foot falls into a cut.
func even(cuts ...api.Cut) api.Work {
	return api.Work{Tool: evenTool(), Wall: 1, FootDepth: api.MaxDepth, Cuts: cuts}
}

// footed returns a work with the even tool, in which the foot falls into all cuts with a Press above 0 whose line it comes nearer to than half and their Press.
func footed(x, y, half int, cuts ...api.Cut) api.Work {
	w := even(cuts...)
	w.Foot, w.FootHalf, w.FootDepth = api.Spot{X: x, Y: y}, half, 0
	return w
}

// pairs returns the pairs of some indices, two for each pair.
func pairs(n ...int) []api.Pair {
	var l []api.Pair
	for i := 0; i+1 < len(n); i += 2 {
		l = append(l, api.Pair{A: n[i], B: n[i+1]})
	}
	return l
}

// moved returns a line that is moved.
func moved(l []api.Spot, x, y int) []api.Spot {
	l = slices.Clone(l)
	for i := range l {
		l[i].X += x
		l[i].Y += y
	}
	return l
}

// highOf returns the high depth for a pressure, counted up as the chapter has it.
func highOf(t api.Tool, press int) int {
	d := 0
	for (d+1)*100 <= press*t.Bite {
		d++
	}
	return d + t.Slack
}

// halfOf returns the half at a depth: the least whole number that is no less than Tip + depth * Num / Den.
func halfOf(t api.Tool, depth int) int {
	half := t.Tip
	for (half-t.Tip)*t.Den < depth*t.Num {
		half++
	}
	return half
}

// reachOf returns the reach of a cut of a work.
func reachOf(w api.Work, i int) int { return halfOf(w.Tool, highOf(w.Tool, w.Cuts[i].Press)) }

// squareOf returns the square of the distance of two lines: the least value of a quadratic function of how far along two segments the points are, for each two segments.
func squareOf(a, b []api.Spot) *big.Rat {
	var least *big.Rat
	for i := range max(len(a)-1, 1) {
		for j := range max(len(b)-1, 1) {
			square := squareOfSegments(a[i], a[min(i+1, len(a)-1)], b[j], b[min(j+1, len(b)-1)])
			if least == nil || square.Cmp(least) < 0 {
				least = square
			}
		}
	}
	return least
}

// squareOfSegments returns the least value of (ax + s ux - bx - t vx)^2 + (ay + s uy - by - t vy)^2 for s and t from 0 to 1: at one of the sides, or where both of its derivatives are 0.
func squareOfSegments(a, a1, b, b1 api.Spot) *big.Rat {
	dx, dy, ux, uy, vx, vy := a.X-b.X, a.Y-b.Y, a1.X-a.X, a1.Y-a.Y, b1.X-b.X, b1.Y-b.Y
	uu, uv, vv, du, dv := ux*ux+uy*uy, ux*vx+uy*vy, vx*vx+vy*vy, dx*ux+dy*uy, dx*vx+dy*vy
	var least *big.Rat
	try := func(s, t *big.Rat) {
		x := new(big.Rat).Add(rat(dx), new(big.Rat).Sub(times(s, ux), times(t, vx)))
		y := new(big.Rat).Add(rat(dy), new(big.Rat).Sub(times(s, uy), times(t, vy)))
		square := new(big.Rat).Add(x.Mul(x, x), y.Mul(y, y))
		if least == nil || square.Cmp(least) < 0 {
			least = square
		}
	}
	try(rat(0), clamped(dv, vv))
	try(rat(1), clamped(dv+uv, vv))
	try(clamped(-du, uu), rat(0))
	try(clamped(uv-du, uu), rat(1))
	if det := new(big.Int).Sub(product(uu, vv), product(uv, uv)); det.Sign() != 0 {
		s := new(big.Rat).SetFrac(new(big.Int).Sub(product(uv, dv), product(vv, du)), det)
		t := new(big.Rat).SetFrac(new(big.Int).Sub(product(uu, dv), product(uv, du)), det)
		if s.Sign() >= 0 && t.Sign() >= 0 && s.Cmp(rat(1)) <= 0 && t.Cmp(rat(1)) <= 0 {
			try(s, t)
		}
	}
	return least
}

func rat(n int) *big.Rat { return new(big.Rat).SetInt64(int64(n)) }

func times(r *big.Rat, n int) *big.Rat { return new(big.Rat).Mul(r, rat(n)) }

func product(a, b int) *big.Int { return new(big.Int).Mul(big.NewInt(int64(a)), big.NewInt(int64(b))) }

// clamped returns num / den, brought to 0 to 1; 0 if den is 0.
func clamped(num, den int) *big.Rat {
	switch {
	case num <= 0:
		return rat(0)
	case num >= den:
		return rat(1)
	}
	return big.NewRat(int64(num), int64(den))
}

// isRat reports whether a square is a fraction, in lowest terms.
func isRat(s api.Square, r *big.Rat) bool {
	return big.NewInt(int64(s.Num)).Cmp(r.Num()) == 0 && big.NewInt(int64(s.Den)).Cmp(r.Denom()) == 0
}

// isNearer reports whether the distance of two lines is less than so much.
func isNearer(a, b []api.Spot, than int) bool {
	return squareOf(a, b).Cmp(new(big.Rat).SetInt(product(than, than))) < 0
}

// wallsOf returns all pairs that break a wall, as the chapter has it.
func wallsOf(w api.Work) []api.Pair {
	var l []api.Pair
	for b := range w.Cuts {
		for a := range b {
			mayCross := w.Cuts[a].Cross && w.Cuts[b].Cross
			if !mayCross && isNearer(w.Cuts[a].Spots, w.Cuts[b].Spots, reachOf(w, a)+reachOf(w, b)+w.Wall+3*w.Play) {
				l = append(l, api.Pair{A: a, B: b})
			}
		}
	}
	slices.SortFunc(l, func(p, q api.Pair) int { return 100*(p.A-q.A) + p.B - q.B })
	return l
}

// A table has, for each two cuts, whether the one must be made before the other one.
type table [][]bool

// rulesOf returns the rules of a work, as the chapter has them.
func rulesOf(w api.Work) table {
	rules := make(table, len(w.Cuts))
	for a, first := range w.Cuts {
		rules[a] = make([]bool, len(w.Cuts))
		for b, second := range w.Cuts {
			if a == b {
				continue
			}
			foot := isNearer(moved(first.Spots, w.Foot.X, w.Foot.Y), second.Spots, w.FootHalf+reachOf(w, b)) && highOf(w.Tool, second.Press) > w.FootDepth
			chatter := isNearer(first.Spots, second.Spots, reachOf(w, a)+reachOf(w, b)) && first.Press > second.Press
			rules[a][b] = foot || chatter
		}
	}
	return rules
}

// pairs returns the pairs of a table.
func (rules table) pairs() []api.Pair {
	var l []api.Pair
	for a := range rules {
		for b := range rules {
			if rules[a][b] {
				l = append(l, api.Pair{A: a, B: b})
			}
		}
	}
	return l
}

// isOrder reports whether a list of all indices keeps all rules.
func (rules table) isOrder(l []int) bool {
	for i, b := range l {
		for _, a := range l[i+1:] {
			if rules[a][b] {
				return false
			}
		}
	}
	return true
}

// isLoop reports whether a list of different indices is a loop.
func (rules table) isLoop(l []int) bool {
	for i, a := range l {
		if !rules[a][l[(i+1)%len(l)]] {
			return false
		}
	}
	return len(l) > 1
}

// choices yields all lists of k different numbers below n, in lexicographic order. They use the same memory.
func choices(n, k int) func(yield func([]int) bool) {
	return func(yield func([]int) bool) {
		var more func(l []int) bool
		more = func(l []int) bool {
			if len(l) == k {
				return yield(l)
			}
			for i := range n {
				if !slices.Contains(l, i) && !more(append(l, i)) {
					return false
				}
			}
			return true
		}
		more(make([]int, 0, k))
	}
}

// firstOrder returns the first order, by trying all lists; nil if there is none.
func (rules table) firstOrder() []int {
	for l := range choices(len(rules), len(rules)) {
		if rules.isOrder(l) {
			return l
		}
	}
	return nil
}

// loops returns all loops with the fewest cuts, by trying all lists.
func (rules table) loops() [][]int {
	var found [][]int
	for k := 2; k <= len(rules) && found == nil; k++ {
		for l := range choices(len(rules), k) {
			if rules.isLoop(l) {
				found = append(found, slices.Clone(l))
			}
		}
	}
	return found
}

// randomLine returns a line with at most so many spots, with coordinates from -span to span.
func randomLine(r *rand.Rand, most, span int) []api.Spot {
	l := make([]api.Spot, 1+r.Intn(most))
	for i := range l {
		l[i] = api.Spot{X: r.Intn(2*span+1) - span, Y: r.Intn(2*span+1) - span}
		if i > 0 && r.Intn(3) == 0 {
			l[i].X = l[i-1].X
		}
		if i > 0 && r.Intn(3) == 0 {
			l[i].Y = l[i-1].Y
		}
	}
	return l
}

// randomTool returns a valid tool that does not cut deep.
func randomTool(r *rand.Rand) api.Tool {
	t := api.Tool{Tip: r.Intn(3), Den: 1 + r.Intn(api.MaxSlope), Bite: 1 + r.Intn(200), Slack: r.Intn(4)}
	t.Num = 1 + r.Intn(t.Den)
	return t
}

// randomWork returns a valid work with at most so many cuts, in which some cuts come near to each other.
func randomWork(r *rand.Rand, cuts int) api.Work {
	span := []int{12, 20, 40, 100}[r.Intn(4)]
	w := api.Work{
		Tool: randomTool(r), Wall: 1 + r.Intn(5), Deepest: r.Intn(12), Play: r.Intn(3), FootHalf: r.Intn(4), FootDepth: r.Intn(8),
		Foot: api.Spot{X: r.Intn(span) - span/2, Y: r.Intn(span) - span/2},
	}
	for range r.Intn(cuts + 1) {
		c := api.Cut{Spots: randomLine(r, 3, 9), Press: r.Intn(12), Cross: r.Intn(3) == 0}
		c.Spots = moved(c.Spots, r.Intn(2*span)-span, r.Intn(2*span)-span)
		w.Cuts = append(w.Cuts, c)
	}
	return w
}

// randomFooted returns a work with at most so many cuts, all with rules by the foot alone: spots in a row, in each of which the foot of the one before falls, some of them with an arch to a spot further on, which closes a loop.
func randomFooted(r *rand.Rand, cuts int) api.Work {
	n := r.Intn(cuts + 1)
	w := footed(40, 0, 0, make([]api.Cut, n)...)
	for i, place := range r.Perm(n) {
		x, high, end := 40*place, 100*(i+1), 40*(place+2+r.Intn(4))
		w.Cuts[i] = cut(1, x, 0)
		if r.Intn(4) == 0 {
			w.Cuts[i] = cut(1, x, 0, x, high, end, high, end, 0)
		}
	}
	return w
}

// ring returns a work with one loop of all its cuts: the foot of each one falls into the next one of the list, and that of the last one into an arm of the first one.
func ring(l ...int) api.Work {
	w := footed(40, 0, 0, make([]api.Cut, len(l))...)
	end := 40 * len(l)
	w.Cuts[l[0]] = cut(1, 0, 0, 0, 100, end, 100, end, 0)
	for i, k := range l[1:] {
		w.Cuts[k] = cut(1, 40*(i+1), 0)
	}
	return w
}

// joined returns the cuts of some works, of which no two come near to each other, in the first one's work.
func joined(works ...api.Work) api.Work {
	w := works[0]
	w.Cuts = nil
	for i, other := range works {
		for _, c := range other.Cuts {
			c.Spots = moved(c.Spots, 0, 2000*i)
			w.Cuts = append(w.Cuts, c)
		}
	}
	return w
}

// checkAll reports an error unless Walls, Deep, Rules, Order, Loop, CheckOrder and CheckLoop say of a work what the chapter has.
func checkAll(t *testing.T, w api.Work) table {
	t.Helper()
	walls, e := groove.Walls(w)
	is(t, "walls", walls, e, wallsOf(w)...)
	var tooDeep []int
	for i, c := range w.Cuts {
		if highOf(w.Tool, c.Press) > w.Deepest {
			tooDeep = append(tooDeep, i)
		}
	}
	deep, e := groove.Deep(w)
	is(t, "deep", deep, e, tooDeep...)
	rules := rulesOf(w)
	before, e := groove.Rules(w)
	is(t, "rules", before, e, rules.pairs()...)
	return rules
}
