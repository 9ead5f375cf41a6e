package groove_test

import (
	"math/rand"
	"reflect"
	"slices"
	"testing"

	"barleycorn/api"
	"barleycorn/groove"
)

// arguments are those of all calls.
type arguments struct {
	tool                            api.Tool
	press, depth, least, left, most int
	a, b                            []api.Spot
	w                               api.Work
	list, made                      []int
}

// calls are all the functions; what they return, with the error last.
func calls(a arguments) map[string]func() []any {
	return map[string]func() []any{
		"CheckTool":  func() []any { return []any{groove.CheckTool(a.tool)} },
		"Depth":      func() []any { low, high, e := groove.Depth(a.tool, a.press); return []any{low, high, e} },
		"Half":       func() []any { half, e := groove.Half(a.tool, a.depth); return []any{half, e} },
		"Distance":   func() []any { s, e := groove.Distance(a.a, a.b); return []any{s, e} },
		"Apart":      func() []any { is, e := groove.Apart(a.a, a.b, a.least); return []any{is, e} },
		"Check":      func() []any { return []any{groove.Check(a.w)} },
		"Walls":      func() []any { l, e := groove.Walls(a.w); return []any{l, e} },
		"Deep":       func() []any { l, e := groove.Deep(a.w); return []any{l, e} },
		"Rules":      func() []any { l, e := groove.Rules(a.w); return []any{l, e} },
		"Order":      func() []any { l, e := groove.Order(a.w); return []any{l, e} },
		"Loop":       func() []any { l, e := groove.Loop(a.w); return []any{l, e} },
		"CheckOrder": func() []any { return []any{groove.CheckOrder(a.w, a.list)} },
		"CheckLoop":  func() []any { return []any{groove.CheckLoop(a.w, a.list)} },
		"Hide":       func() []any { l, e := groove.Hide(a.made, a.left, a.most); return []any{l, e} },
	}
}

// roomy returns a copy of a list with room behind it that holds something.
func roomy[V any](l []V, behind V) []V {
	return append(slices.Clone(l), behind, behind, behind)[:len(l)]
}

// whole returns a list with the room behind it.
func whole[V any](l []V) []V { return l[:cap(l)] }

// withRoom returns arguments whose lists have room behind them.
func (a arguments) withRoom() arguments {
	a.list, a.made = roomy(a.list, 77), roomy(a.made, 77)
	a.a, a.b = roomy(a.a, api.Spot{X: 77}), roomy(a.b, api.Spot{X: 77})
	a.w.Cuts = roomy(a.w.Cuts, api.Cut{Press: 77})
	for i, c := range a.w.Cuts {
		a.w.Cuts[i].Spots = roomy(c.Spots, api.Spot{X: 77})
	}
	return a
}

// memory returns a copy of all the lists of some arguments, with the room behind them.
func (a arguments) memory() []any {
	copied := []any{slices.Clone(whole(a.list)), slices.Clone(whole(a.made)), slices.Clone(whole(a.a)), slices.Clone(whole(a.b))}
	for _, c := range whole(a.w.Cuts) {
		copied = append(copied, c.Press, c.Cross, slices.Clone(whole(c.Spots)))
	}
	return copied
}

// isEmpty reports whether a result is a zero value, or a list without elements.
func isEmpty(v any) bool {
	value := reflect.ValueOf(v)
	return value.IsZero() || value.Kind() == reflect.Slice && value.Len() == 0
}

// overwrite changes all the memory that a result has.
func overwrite(v any) {
	switch x := v.(type) {
	case []int:
		for i := range whole(x) {
			whole(x)[i] = -5
		}
	case []api.Pair:
		for i := range whole(x) {
			whole(x)[i] = api.Pair{A: -5}
		}
	}
}

// check makes all calls twice, and reports results that are not zero values beside an error (R2), arguments that have changed, memory that is shared, and results that depend on earlier calls (R3). It counts the calls without an error.
func (a arguments) check(t *testing.T, fine map[string]int) {
	t.Helper()
	a = a.withRoom()
	before := a.memory()
	for name, call := range calls(a) {
		results, again := call(), call()
		if !reflect.DeepEqual(results, again) {
			t.Fatal(name, "gives", results, "and then", again)
		}
		last := len(results) - 1
		if results[last] == api.OK {
			fine[name]++
		} else if slices.ContainsFunc(results[:last], func(v any) bool { return !isEmpty(v) }) {
			t.Fatal(name, results)
		}
		for _, v := range results {
			overwrite(v)
		}
		if third := call(); !reflect.DeepEqual(third, again) {
			t.Fatal(name, "keeps its results")
		}
		if !reflect.DeepEqual(a.memory(), before) {
			t.Fatal(name, "has changed its arguments, or shares their memory")
		}
	}
}

// TestRules: P1, R2 and R3 for all calls, with valid arguments.
func TestRules(t *testing.T) {
	r := rand.New(rand.NewSource(73))
	fine := map[string]int{}
	for i := range 400 {
		a := arguments{tool: anyTool(r), press: r.Intn(1001), depth: r.Intn(20001), least: r.Intn(30001), left: r.Intn(61), most: r.Intn(21), a: randomLine(r, 12, 10000), b: randomLine(r, 12, 10000)}
		a.w = randomWork(r, []int{3, api.MaxCuts}[i%2])
		a.list, _ = groove.Order(a.w)
		if a.list == nil {
			a.list, _ = groove.Loop(a.w)
		}
		for range 1 + r.Intn(60) {
			a.made = append(a.made, r.Intn(41)-20)
		}
		a.check(t, fine)
	}
	for name := range calls(arguments{}) {
		if fine[name] < 80 {
			t.Error(name, "had too few calls without an error:", fine[name])
		}
	}
}

// ints are numbers at the limits, just beyond them, and far away.
var ints = []int{leastInt, leastInt + 1, -10001, -10000, -1001, -1000, -21, -20, -1, 0, 1, 2, 3, 12, 13, 16, 17, 20, 21, 60, 61, 100, 101, 1000, 1001, 10000, 10001, 20000, 20001, 30000, 30001, greatestInt - 1, greatestInt}

// anyInt returns any number, most of the time a usual one.
func anyInt(r *rand.Rand, usual int) int {
	if r.Intn(4) > 0 {
		return r.Intn(usual + 1)
	}
	return ints[r.Intn(len(ints))]
}

// anyList returns a list of any length, often with usual numbers alone.
func anyList(r *rand.Rand, usual int) []int {
	var l []int
	for range []int{0, 1, 2, 3, 4, 5, 12, 13, 16, 17, 60, 61}[r.Intn(12)] {
		l = append(l, r.Intn(usual+1))
	}
	if len(l) > 0 && r.Intn(3) == 0 {
		l[r.Intn(len(l))] = anyInt(r, usual)
	}
	return l
}

// anyLine returns a list of spots of any length, often with usual numbers alone.
func anyLine(r *rand.Rand) []api.Spot {
	var l []api.Spot
	for range []int{0, 1, 2, 3, 12, 13}[r.Intn(6)] {
		l = append(l, api.Spot{X: r.Intn(99), Y: r.Intn(99)})
	}
	if len(l) > 0 && r.Intn(3) == 0 {
		l[r.Intn(len(l))] = api.Spot{X: anyInt(r, 9), Y: anyInt(r, 9)}
	}
	return l
}

// anyWork returns a work that is valid but for some of its fields.
func anyWork(r *rand.Rand) api.Work {
	w := randomWork(r, api.MaxCuts)
	tools, works := toolFields(), workFields()[:7]
	for range r.Intn(3) {
		switch r.Intn(6) {
		case 0:
			*tools[r.Intn(len(tools))].field(&w.Tool) = anyInt(r, 9)
		case 1:
			w.Cuts = append(w.Cuts, w.Cuts...)
		case 2:
			w.Cuts = append(w.Cuts, api.Cut{Spots: anyLine(r), Press: anyInt(r, 9)})
		default:
			*works[r.Intn(len(works))].field(&w) = anyInt(r, 9)
		}
	}
	return w
}

// TestAnyArguments: P1, R5 to R7: whatever the arguments are, each call ends without a panic, and with zero values beside an error.
func TestAnyArguments(t *testing.T) {
	r := rand.New(rand.NewSource(74))
	fine := map[string]int{}
	for range 2000 {
		a := arguments{tool: randomTool(r), press: anyInt(r, 9), depth: anyInt(r, 9), least: anyInt(r, 9), left: anyInt(r, 9), most: anyInt(r, 9), a: anyLine(r), b: anyLine(r), w: anyWork(r), list: anyList(r, 4), made: anyList(r, 9)}
		tools := toolFields()
		*tools[r.Intn(len(tools))].field(&a.tool) = anyInt(r, 9)
		if r.Intn(2) == 0 {
			a.list, _ = groove.Order(a.w)
		}
		if r.Intn(2) == 0 && len(a.list) == 0 {
			a.list, _ = groove.Loop(a.w)
		}
		a.check(t, fine)
	}
	for name := range calls(arguments{}) {
		if fine[name] < 100 {
			t.Error(name, "had too few calls without an error:", fine[name])
		}
	}
}

// TestGreatestWorks: P1, R5: with all numbers at their limits nothing overflows.
func TestGreatestWorks(t *testing.T) {
	w := api.Work{
		Tool: api.Tool{Tip: 100, Num: 100, Den: 100, Bite: 1000, Slack: 1000},
		Wall: 1000, Deepest: 20000, Play: 100, FootHalf: 1000, FootDepth: 10999, Foot: api.Spot{X: 1000, Y: 1000},
	}
	for i, l := range [][]api.Spot{line(-10000, -10000, -10000, 10000), line(10000, -10000, 10000, 10000), line(-10000, 10000), line(10000, 9999), line(-9999, -10000, 10000, 10000, -10000, -9999, 10000, -10000)} {
		w.Cuts = append(w.Cuts, api.Cut{Spots: l, Press: 1000 - i%2})
	}
	rules := checkAll(t, w) // the reaches are 11100 and 11090: 22200 and 1300 are more than 20000
	l, e := groove.Walls(w)
	if l = must(t, l, e); len(l) != 10 {
		t.Error(l)
	}
	loopIs(t, "the greatest", w, rules.loops()[0]...)
}

// TestEmptyLists: R4, an empty list is as nil: it is no line, and no slips, but the order of no cuts.
func TestEmptyLists(t *testing.T) {
	for _, l := range [][]api.Spot{nil, {}} {
		_, distance := groove.Distance(l, line(0, 0))
		_, apart := groove.Apart(line(0, 0), l, 0)
		work := groove.Check(even(api.Cut{Spots: l}))
		if distance != api.ErrArg || apart != api.ErrArg || work != api.ErrWork {
			t.Error(distance, apart, work)
		}
	}
	for _, l := range [][]api.Cut{nil, {}} {
		w := even(l...)
		checkAll(t, w)
		for _, order := range [][]int{nil, {}} {
			if e, f := groove.CheckOrder(w, order), groove.CheckLoop(w, order); e != api.OK || f != api.ErrProof {
				t.Error(e, f)
			}
		}
		order, e := groove.Order(w)
		is(t, "order", order, e)
	}
}
