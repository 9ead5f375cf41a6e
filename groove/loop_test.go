package groove_test

import (
	"math/rand"
	"slices"
	"testing"

	"barleycorn/api"
	"barleycorn/groove"
)

// loopIs reports an error unless Loop gives a loop, and there is no order.
func loopIs(t *testing.T, what any, w api.Work, want ...int) {
	t.Helper()
	l, e := groove.Loop(w)
	is(t, what, l, e, want...)
	if e := groove.CheckLoop(w, l); e != api.OK {
		t.Error(what, l, e)
	}
	if l, e := groove.Order(w); e != api.ErrLoop || len(l) > 0 {
		t.Error(what, l, e)
	}
}

// TestRings: P5.4, P5.9, loops of two and of more cuts, up to MaxCuts: they begin with their least index.
func TestRings(t *testing.T) {
	loopIs(t, "by the foot and the pressure", footed(0, 2, 0, cut(1, 0, 0, 100, 0), cut(2, 0, 2, 100, 2)), 0, 1)
	loopIs(t, "two", ring(0, 1), 0, 1)
	loopIs(t, "two", ring(1, 0), 0, 1)
	loopIs(t, "three", ring(0, 2, 1), 0, 2, 1)
	loopIs(t, "three", ring(2, 1, 0), 0, 2, 1)
	loopIs(t, "three", ring(1, 2, 0), 0, 1, 2)
	loopIs(t, "six", ring(3, 5, 0, 4, 2, 1), 0, 4, 2, 1, 3, 5)
	r := rand.New(rand.NewSource(70))
	for n := 2; n <= api.MaxCuts; n++ {
		l := r.Perm(n)
		zero := slices.Index(l, 0)
		loopIs(t, l, ring(l...), slices.Concat(l[zero:], l[:zero])...)
	}
}

// TestSeveralLoops: P5.4, of all loops those with the fewest cuts, and of these the first one.
func TestSeveralLoops(t *testing.T) {
	loopIs(t, "the fewest are last", joined(ring(0, 1, 2), ring(0, 1)), 3, 4)
	loopIs(t, "the fewest are first", joined(ring(0, 1), ring(0, 1, 2)), 0, 1)
	loopIs(t, "in the middle", joined(ring(0, 1, 2, 3), ring(2, 1, 0), ring(0, 1, 2, 3, 4)), 4, 6, 5)
	loopIs(t, "as many", joined(ring(2, 1, 0), ring(0, 1, 2)), 0, 2, 1)
	loopIs(t, "as many, after a cut alone", joined(footed(40, 0, 0, cut(1, 0, 0)), ring(0, 1, 2), ring(0, 1, 2)), 1, 2, 3)
	// All of three cuts fall into each other: the foot is where the tool is.
	w := footed(0, 0, 0, cut(1, 0, 0), cut(1, 0, 0), cut(1, 0, 0))
	loopIs(t, "each two", w, 0, 1)
	// 0 and 2, and 0 and 3, and 1 and 2.
	w = footed(0, 0, 0, cut(1, 0, 0, 9, 0), cut(1, 20, 0), cut(1, 5, 0, 20, 0), cut(1, 0, 0))
	rulesAre(t, "a row", w, pairs(0, 2, 0, 3, 1, 2, 2, 0, 2, 1, 3, 0)...)
	loopIs(t, "a row", w, 0, 2)
	w.Cuts[0].Spots, w.Cuts[3].Spots = line(50, 0), line(20, 0)
	loopIs(t, "without 0", w, 1, 2)
}

// TestCheckLoop: P5.4, lists that are too short, too long, with an index twice and with one out of range, and that no rule joins.
func TestCheckLoop(t *testing.T) {
	w := joined(ring(0, 1, 2), ring(0, 1), footed(0, 0, 0, cut(1, 0, 0)))
	for _, x := range []struct {
		l    []int
		want api.Errno
	}{
		{[]int{0, 1, 2}, api.OK}, {[]int{1, 2, 0}, api.OK}, {[]int{2, 0, 1}, api.OK}, {[]int{3, 4}, api.OK}, {[]int{4, 3}, api.OK},
		{[]int{0, 2, 1}, api.ErrProof}, {[]int{2, 1, 0}, api.ErrProof}, {[]int{0, 1}, api.ErrProof}, {[]int{1, 2}, api.ErrProof}, {[]int{2, 0}, api.ErrProof}, {[]int{0, 1, 2, 3, 4}, api.ErrProof}, {[]int{0, 3}, api.ErrProof}, {[]int{0, 1, 2, 5}, api.ErrProof},
		{nil, api.ErrProof}, {[]int{}, api.ErrProof}, {[]int{0}, api.ErrProof}, {[]int{5}, api.ErrProof}, {[]int{0, 0}, api.ErrProof}, {[]int{3, 3}, api.ErrProof},
		{[]int{3, 4, 3, 4}, api.ErrProof}, {[]int{0, 1, 2, 0}, api.ErrProof}, {[]int{0, 1, 2, 0, 1, 2}, api.ErrProof}, {slices.Repeat([]int{3, 4}, 500), api.ErrProof},
		{[]int{3, 6}, api.ErrProof}, {[]int{3, -1}, api.ErrProof}, {[]int{-1, 3}, api.ErrProof}, {[]int{3, 4, 16}, api.ErrProof}, {[]int{6, 7}, api.ErrProof}, {[]int{leastInt, greatestInt}, api.ErrProof},
	} {
		if e := groove.CheckLoop(w, x.l); e != x.want {
			t.Error(x, e)
		}
	}
	for _, l := range [][]int{nil, {}, {0}, {0, 0}, {0, 1}} {
		if e := groove.CheckLoop(even(), l); e != api.ErrProof {
			t.Error(l, e)
		}
		if e := groove.CheckLoop(footed(0, 0, 9, cut(1, 0, 0)), l); e != api.ErrProof {
			t.Error(l, e)
		}
	}
}

// TestRandomLoops: P5.4 and P5.9, for random works: the loop is the first of all lists with the fewest cuts that are loops, and CheckLoop knows those that are.
func TestRandomLoops(t *testing.T) {
	r := rand.New(rand.NewSource(71))
	lengths := map[int]int{}
	several := 0
	for range 500 {
		w := randomFooted(r, 6)
		if r.Intn(3) == 0 {
			w = randomWork(r, 6)
		}
		rules := rulesOf(w)
		loops := rules.loops()
		l, e := groove.Loop(w)
		if loops == nil {
			if e != api.ErrNone || len(l) > 0 {
				t.Fatal(w, l, e)
			}
		} else {
			lengths[len(loops[0])]++
			loopIs(t, w, w, loops[0]...)
			if len(loops) > len(loops[0]) {
				several++
			}
		}
		for k := range len(w.Cuts) {
			for l := range choices(len(w.Cuts), k+1) {
				if e := groove.CheckLoop(w, l); (e == api.OK) != rules.isLoop(l) || e != api.OK && e != api.ErrProof {
					t.Fatal(w, l, e)
				}
			}
		}
		if t.Failed() {
			return
		}
	}
	if lengths[2] < 30 || lengths[3]+lengths[4] < 10 || several < 20 {
		t.Error("only", lengths, several)
	}
}
