package groove_test

import (
	"math/rand"
	"slices"
	"testing"

	"barleycorn/api"
	"barleycorn/groove"
)

// rulesAre reports an error unless Rules gives some pairs.
func rulesAre(t *testing.T, what any, w api.Work, want ...api.Pair) {
	t.Helper()
	l, e := groove.Rules(w)
	is(t, what, l, e, want...)
}

// TestOrderExamples: P5.4, the chapter's examples.
func TestOrderExamples(t *testing.T) {
	w := even(cut(1, 0, 0, 9, 0), cut(2, 5, 0, 5, 9))
	w.Tool, w.FootDepth = chapterTool(), 100
	l, e := groove.Order(w)
	is(t, "order", l, e, 1, 0)
	w = footed(0, 20, 1, cut(1, 0, 0, 100, 0), cut(2, 0, 20, 100, 20))
	w.Tool = chapterTool()
	rulesAre(t, "rules", w, pairs(0, 1)...)
	l, e = groove.Loop(w)
	if e != api.ErrNone || len(l) > 0 {
		t.Error(l, e)
	}
	l, e = groove.Order(w)
	is(t, "order", l, e, 0, 1)
}

// TestFootAlone: P5.4, rules by the foot: where it just falls into a cut, and where it just does not.
func TestFootAlone(t *testing.T) {
	for _, x := range []struct {
		x, y, half, first, second, apart int // the foot's line for the first cut is so far from the second one
		want                             []api.Pair
	}{
		{0, 100, 5, 3, 7, 12, nil}, {0, 100, 5, 3, 7, 11, pairs(0, 1)}, {0, 100, 5, 3, 7, -11, pairs(0, 1)}, {0, 100, 5, 3, 7, -12, nil}, {0, 100, 5, 3, 7, 0, pairs(0, 1)},
		{0, 100, 5, 7, 3, 8, nil}, {0, 100, 5, 7, 3, 7, pairs(0, 1)}, {0, -100, 0, 4, 4, 4, nil}, {0, -100, 0, 4, 4, 3, pairs(0, 1)}, {0, 1000, 1000, 1, 1, 1001, nil}, {0, 1000, 1000, 1, 1, 1000, pairs(0, 1)}, {0, -1000, 1000, 1, 1, -1000, pairs(0, 1)},
		{30, 100, 0, 1, 1, 0, pairs(0, 1)}, {-1000, 100, 0, 1, 1, 0, nil}, {10, 100, 0, 1, 1, 0, pairs(0, 1)}, {101, 100, 1, 1, 1, 0, pairs(0, 1)}, {102, 100, 1, 1, 1, 0, nil},
	} {
		w := footed(x.x, x.y, x.half, cut(x.first, 0, 0, 100, 0), cut(x.second, 0, x.y+x.apart, 100, x.y+x.apart))
		rulesAre(t, x, w, x.want...)
		slices.Reverse(w.Cuts)
		if x.want != nil {
			rulesAre(t, x, w, pairs(1, 0)...)
		} else {
			rulesAre(t, x, w)
		}
	}
}

// TestFootDepth: P5.4, the foot falls only into cuts whose high depth is more than FootDepth.
func TestFootDepth(t *testing.T) {
	w := footed(0, 50, 3, cut(30, 0, 0, 100, 0), cut(21, 0, 50, 100, 50))
	w.Tool = chapterTool() // the high depths are 18 and 13, the low ones 12 and 7
	for depth, want := range map[int][]api.Pair{0: pairs(0, 1), 7: pairs(0, 1), 11: pairs(0, 1), 12: pairs(0, 1), 13: nil, 14: nil, 20000: nil} {
		w.FootDepth = depth
		rulesAre(t, depth, w, want...)
	}
	w = footed(0, 50, 3, cut(1, 0, 0, 100, 0), cut(0, 0, 50, 100, 50))
	rulesAre(t, "a cut without a depth", w)
	w.Tool.Slack = 1
	rulesAre(t, "with slack", w, pairs(0, 1)...)
}

// TestFootBeyond: P5.4, the foot's line may have coordinates beyond MaxSpot.
func TestFootBeyond(t *testing.T) {
	for _, x := range []struct{ x, y, footX, footY int }{{10000, 0, 1000, 0}, {-10000, 0, -1000, 0}, {0, 10000, 0, 1000}, {0, -10000, 0, -1000}} {
		for half, want := range map[int][]api.Pair{1000: pairs(0, 1, 1, 0), 999: nil} {
			w := footed(x.footX, x.footY, half, cut(1, x.x, x.y), cut(1, x.x, x.y))
			rulesAre(t, []any{x, half}, w, want...)
		}
	}
	w := footed(1000, 1000, 0, cut(1, -10000, -10000, 10000, 10000), cut(1, 10000, -10000, -10000, 10000), cut(1, 10000, 10000))
	rulesAre(t, "across", w, pairs(0, 1, 0, 2, 1, 0)...)
}

// TestPressuresAlone: P5.4, rules by the pressures: the greater one is first if the lines are nearer than the reaches.
func TestPressuresAlone(t *testing.T) {
	for _, x := range []struct {
		first, second, apart int
		want                 []api.Pair
	}{
		{7, 5, 12, nil}, {7, 5, 11, pairs(0, 1)}, {5, 7, 11, pairs(1, 0)}, {5, 7, 12, nil}, {6, 6, 0, nil}, {6, 6, 5, nil}, {7, 6, 0, pairs(0, 1)}, {6, 7, 0, pairs(1, 0)},
		{1, 0, 1, nil}, {1, 0, 0, pairs(0, 1)}, {0, 1, 0, pairs(1, 0)}, {0, 0, 0, nil}, {1000, 999, 1998, pairs(0, 1)}, {1000, 999, 1999, nil},
	} {
		for mayCross := range 4 {
			w := even(cut(x.first, 0, 0, 100, 0), cut(x.second, 50, x.apart, 50, x.apart+30))
			w.Wall, w.Play = 1000, 100
			w.Cuts[0].Cross, w.Cuts[1].Cross = mayCross&1 != 0, mayCross&2 != 0
			rulesAre(t, x, w, x.want...)
		}
	}
	w := even(cut(21, 0, 0, 100, 0), cut(4, 0, 13, 100, 13))
	w.Tool = chapterTool() // the reaches are 9 and 5
	rulesAre(t, "reaches", w, pairs(0, 1)...)
	w.Cuts[1].Spots = line(0, 14, 100, 14)
	rulesAre(t, "reaches", w)
	w.Cuts = []api.Cut{cut(2, 0, 0), cut(3, 0, 0)} // the same depths, but not the same pressures: 1 * 50 / 100 is 1 as well
	rulesAre(t, "the same depths", w, pairs(1, 0)...)
}

// TestBothRules: P5.4, a pair that both rules name is there once, and two cuts may be named in both orders.
func TestBothRules(t *testing.T) {
	w := footed(0, 3, 0, cut(5, 0, 0, 100, 0), cut(4, 0, 3, 100, 3))
	rulesAre(t, "both", w, pairs(0, 1)...)
	w.Cuts[0].Press, w.Cuts[1].Press = 2, 3
	rulesAre(t, "each other", w, pairs(0, 1, 1, 0)...)
	rulesAre(t, "the foot where the tool is", footed(0, 0, 1, cut(2, 0, 0), cut(2, 1, 0), cut(2, 4, 0)), pairs(0, 1, 1, 0)...)
}

// TestFirstOrder: P5.4, of several orders the first one.
func TestFirstOrder(t *testing.T) {
	for _, x := range []struct {
		press []int
		want  []int
	}{
		{nil, nil}, {[]int{3}, []int{0}}, {[]int{3, 3, 3}, []int{0, 1, 2}}, {[]int{1, 2, 3}, []int{2, 1, 0}}, {[]int{1, 2, 3, 2, 1}, []int{2, 1, 3, 0, 4}}, {[]int{9, 8, 9, 7, 9}, []int{0, 2, 4, 1, 3}},
		{all(16, 5), []int{0, 1, 2, 3, 4, 5, 6, 7, 8, 9, 10, 11, 12, 13, 14, 15}}, {[]int{1, 2, 3, 4, 5, 6, 7, 8, 9, 10, 11, 12, 13, 14, 15, 16}, []int{15, 14, 13, 12, 11, 10, 9, 8, 7, 6, 5, 4, 3, 2, 1, 0}},
	} {
		w := even()
		for _, press := range x.press {
			w.Cuts = append(w.Cuts, cut(press, 0, 0, 9, 0))
		}
		l, e := groove.Order(w)
		is(t, x, l, e, x.want...)
		if l, e := groove.Loop(w); e != api.ErrNone || len(l) > 0 {
			t.Error(x, l, e)
		}
	}
	// 3 before 0 alone: 1 and 2 do not have to wait for it, but 0 is not made last.
	w := even(cut(1, 0, 0), cut(1, 100, 0), cut(1, 200, 0), cut(2, 0, 0), cut(1, 300, 0))
	l, e := groove.Order(w)
	is(t, "only one rule", l, e, 1, 2, 3, 0, 4)
}

// TestCheckOrder: P5.4, lists that are too short, too long, with an index twice and with one out of range, and that break a rule.
func TestCheckOrder(t *testing.T) {
	w := even(cut(1, 0, 0), cut(2, 0, 0), cut(3, 500, 0))
	for _, x := range []struct {
		l    []int
		want api.Errno
	}{
		{[]int{1, 0, 2}, api.OK}, {[]int{1, 2, 0}, api.OK}, {[]int{2, 1, 0}, api.OK}, {[]int{0, 1, 2}, api.ErrProof}, {[]int{0, 2, 1}, api.ErrProof}, {[]int{2, 0, 1}, api.ErrProof},
		{nil, api.ErrProof}, {[]int{}, api.ErrProof}, {[]int{1, 0}, api.ErrProof}, {[]int{1, 2}, api.ErrProof}, {[]int{1, 0, 2, 2}, api.ErrProof}, {[]int{1, 0, 2, 3}, api.ErrProof}, {all(1000, 1), api.ErrProof},
		{[]int{1, 0, 0}, api.ErrProof}, {[]int{1, 1, 0}, api.ErrProof}, {[]int{2, 2, 2}, api.ErrProof}, {[]int{1, 0, 3}, api.ErrProof}, {[]int{1, 0, -1}, api.ErrProof}, {[]int{1, 0, 16}, api.ErrProof}, {[]int{1, 0, leastInt}, api.ErrProof}, {[]int{greatestInt, 0, 1}, api.ErrProof},
	} {
		if e := groove.CheckOrder(w, x.l); e != x.want {
			t.Error(x, e)
		}
	}
	for _, l := range [][]int{nil, {}} {
		if e := groove.CheckOrder(even(), l); e != api.OK {
			t.Error(e)
		}
	}
	if e := groove.CheckOrder(even(), []int{0}); e != api.ErrProof {
		t.Error(e)
	}
	if e := groove.CheckOrder(even(cut(1, 0, 0)), []int{0}); e != api.OK {
		t.Error(e)
	}
}

// TestRandomOrders: P5.3, P5.4 and P5.9, for random works: the order is the first of all lists that keep the rules, and CheckOrder knows those that do.
func TestRandomOrders(t *testing.T) {
	r := rand.New(rand.NewSource(68))
	loops, bound := 0, 0
	for range 400 {
		w := randomWork(r, 5)
		if r.Intn(3) == 0 {
			w = randomFooted(r, 5)
		}
		rules := checkAll(t, w)
		want := rules.firstOrder()
		l, e := groove.Order(w)
		switch {
		case want != nil:
			is(t, w, l, e, want...)
			if !slices.IsSorted(want) {
				bound++
			}
		case e != api.ErrLoop || len(l) > 0:
			t.Error(w, l, e)
		default:
			loops++
		}
		for l := range choices(len(w.Cuts), len(w.Cuts)) {
			if e := groove.CheckOrder(w, l); (e == api.OK) != rules.isOrder(l) || e != api.OK && e != api.ErrProof {
				t.Error(w, l, e)
			}
		}
		if t.Failed() {
			return
		}
	}
	if loops < 40 || bound < 40 {
		t.Error("only", loops, bound)
	}
}

// TestOrderOrLoop: P5.9, works with many cuts have an order or a loop, and never both, and no other order is before the one that is found.
func TestOrderOrLoop(t *testing.T) {
	r := rand.New(rand.NewSource(69))
	var orders, loops int
	for range 200 {
		w := randomWork(r, api.MaxCuts)
		if r.Intn(3) == 0 {
			w = randomFooted(r, api.MaxCuts)
		}
		order, e := groove.Order(w)
		loop, f := groove.Loop(w)
		switch {
		case e == api.OK && f == api.ErrNone:
			orders++
			l, g := groove.Rules(w)
			l = must(t, l, g)
			if groove.CheckOrder(w, order) != api.OK {
				t.Fatal(w, order)
			}
			for range 30 {
				if other := anyOrder(r, len(w.Cuts), l); slices.Compare(other, order) < 0 || groove.CheckOrder(w, other) != api.OK {
					t.Fatal(w, other, "is before", order, "or no order")
				}
			}
		case e == api.ErrLoop && f == api.OK:
			loops++
			if groove.CheckLoop(w, loop) != api.OK {
				t.Fatal(w, loop)
			}
			for range 30 {
				if groove.CheckOrder(w, r.Perm(len(w.Cuts))) != api.ErrProof {
					t.Fatal(w, loop)
				}
			}
		default:
			t.Fatal(w, order, e, loop, f)
		}
	}
	if orders < 40 || loops < 40 {
		t.Error("only", orders, loops)
	}
}

// anyOrder returns any order of n cuts that keeps some rules, which have no loop.
func anyOrder(r *rand.Rand, n int, rules []api.Pair) []int {
	var order []int
	for len(order) < n {
		next := r.Intn(n)
		waits := slices.ContainsFunc(rules, func(p api.Pair) bool { return p.B == next && !slices.Contains(order, p.A) })
		if !waits && !slices.Contains(order, next) {
			order = append(order, next)
		}
	}
	return order
}
