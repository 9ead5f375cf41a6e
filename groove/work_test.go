package groove_test

import (
	"slices"
	"testing"

	"barleycorn/api"
	"barleycorn/groove"
)

// workFields are the numbers of a work, but for those of its tool.
func workFields() []limit[api.Work] {
	return []limit[api.Work]{
		{"Wall", func(w *api.Work) *int { return &w.Wall }, 1, 1000},
		{"Deepest", func(w *api.Work) *int { return &w.Deepest }, 0, 20000},
		{"Play", func(w *api.Work) *int { return &w.Play }, 0, 100},
		{"Foot.X", func(w *api.Work) *int { return &w.Foot.X }, -1000, 1000},
		{"Foot.Y", func(w *api.Work) *int { return &w.Foot.Y }, -1000, 1000},
		{"FootHalf", func(w *api.Work) *int { return &w.FootHalf }, 0, 1000},
		{"FootDepth", func(w *api.Work) *int { return &w.FootDepth }, 0, 20000},
		{"Press", func(w *api.Work) *int { return &w.Cuts[1].Press }, 0, 1000},
		{"Press of the first", func(w *api.Work) *int { return &w.Cuts[0].Press }, 0, 1000},
		{"X", func(w *api.Work) *int { return &w.Cuts[1].Spots[1].X }, -10000, 10000},
		{"Y", func(w *api.Work) *int { return &w.Cuts[1].Spots[0].Y }, -10000, 10000},
	}
}

// checkIs reports an error unless all functions with a work say whether it is valid.
func checkIs(t *testing.T, what any, w api.Work, isValid bool) {
	t.Helper()
	_, walls := groove.Walls(w)
	_, deep := groove.Deep(w)
	_, rules := groove.Rules(w)
	_, order := groove.Order(w)
	_, loop := groove.Loop(w)
	got := []api.Errno{groove.Check(w), walls, deep, rules, order, loop, groove.CheckOrder(w, []int{-1}), groove.CheckLoop(w, []int{-1})}
	want := slices.Repeat([]api.Errno{api.ErrWork}, 8)
	if isValid { // its cuts keep one order, and [-1] is none
		want = []api.Errno{api.OK, api.OK, api.OK, api.OK, api.OK, api.ErrNone, api.ErrProof, api.ErrProof}
	}
	if !slices.Equal(got, want) {
		t.Error(what, got, "want", want)
	}
}

// twoCuts returns a work with two cuts without a rule: they are far from each other, and in any case the foot does not fall into cuts that are so deep.
func twoCuts() api.Work {
	w := even(cut(7, 0, 0, 0, 50), cut(7, 5000, 0, 5000, 50))
	w.Wall, w.Deepest, w.Play, w.FootHalf, w.FootDepth = 5, 6, 7, 8, 9
	return w
}

// TestWorkLimits: P5.3, each number of a work at its limits and just beyond them, and far away.
func TestWorkLimits(t *testing.T) {
	for _, f := range workFields() {
		for n, isValid := range f.around() {
			w := twoCuts()
			*f.field(&w) = n
			checkIs(t, []any{f.name, n}, w, isValid)
		}
	}
}

// TestWorkTools: P5.3, the tool of a work is valid: if it is not, the error is that of the work.
func TestWorkTools(t *testing.T) {
	for _, f := range toolFields() {
		for n, isValid := range f.around() {
			w := twoCuts()
			w.Tool = broadTool()
			*f.field(&w.Tool) = n
			checkIs(t, []any{f.name, n}, w, isValid)
		}
	}
	w := twoCuts()
	w.Tool.Num, w.Tool.Den = 3, 2
	checkIs(t, "Num above Den", w, false)
	w.Tool = api.Tool{}
	checkIs(t, "no tool", w, false)
	checkIs(t, "nothing", api.Work{}, false)
}

// TestNumberOfCuts: P5.3, works with no cut, one, MaxCuts and one more; each of them is asked.
func TestNumberOfCuts(t *testing.T) {
	for n, isValid := range map[int]bool{0: true, 1: true, 2: true, 15: true, 16: true, 17: false, 100: false} {
		w := even()
		w.Deepest = 100
		for i := range n {
			w.Cuts = append(w.Cuts, cut(7, 100*i, 0))
		}
		checkIs(t, n, w, isValid)
		for i := range min(n, 16) {
			for _, bad := range []api.Cut{{Press: 7}, cut(1001, 100*i, 0), cut(-1, 100*i, 0), cut(7, 100*i, 10001)} {
				good := w.Cuts[i]
				w.Cuts[i] = bad
				checkIs(t, []any{n, i, bad}, w, false)
				w.Cuts[i] = good
			}
		}
	}
	w := even()
	w.Cuts = []api.Cut{}
	checkIs(t, "empty", w, true)
}

// TestCutLines: P5.3, the spots of each cut are a line.
func TestCutLines(t *testing.T) {
	for i, x := range lineErrors() {
		w := twoCuts()
		w.Cuts[1].Spots = x.l
		checkIs(t, i, w, x.want == api.OK)
	}
}

// TestErrorsOfWorks: P5.3, the error of a work comes first, whatever the list is.
func TestErrorsOfWorks(t *testing.T) {
	for _, l := range [][]int{nil, {}, {0, 1}, {1, 0}, {0}, {0, 0}, {-1, 2}, all(1000, 0)} {
		w := twoCuts()
		w.Wall = 0
		if e, f := groove.CheckOrder(w, l), groove.CheckLoop(w, l); e != api.ErrWork || f != api.ErrWork {
			t.Error(l, e, f)
		}
	}
	w := footed(0, 2, 0, cut(1, 0, 0, 100, 0), cut(2, 0, 2, 100, 2))
	if _, e := groove.Order(w); e != api.ErrLoop {
		t.Fatal(e)
	}
	w.Play = -1
	if l, e := groove.Order(w); e != api.ErrWork || len(l) > 0 {
		t.Error(l, e)
	}
}
