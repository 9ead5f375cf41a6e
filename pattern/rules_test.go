package pattern

import (
	"math/rand"
	"reflect"
	"slices"
	"testing"

	"barleycorn/api"
)

// arguments are those of all calls.
type arguments struct {
	p, q                     api.Program
	from, n, j, steps, parts int
	num, den                 int
	how                      uint8
	phases, plates           []int
	path                     []api.Arm
}

// ofPrograms are the functions that return Check's error.
var ofPrograms = map[string]bool{"Check": true, "Lift": true, "Phases": true, "Cut": true, "Closes": true, "Motif": true, "Kind": true, "Gap": true, "Symmetries": true, "Same": true, "Moire": true}

// calls are all the functions; what they return, with the error last.
func calls(a arguments) map[string]func() []any {
	list := func(l []int, e api.Errno) []any { return []any{l, e} }
	number := func(n int, e api.Errno) []any { return []any{n, e} }
	return map[string]func() []any{
		"Check":      func() []any { return []any{Check(a.p)} },
		"Lift":       func() []any { return list(Lift(a.p)) },
		"Phases":     func() []any { return list(Phases(a.p, a.from, a.n)) },
		"Cut":        func() []any { return list(Cut(a.p, a.j)) },
		"Closes":     func() []any { return number(Closes(a.p)) },
		"Motif":      func() []any { cuts, turn, e := Motif(a.p); return []any{cuts, turn, e} },
		"Kind":       func() []any { kind, e := Kind(a.p); return []any{kind, e} },
		"Gap":        func() []any { return number(Gap(a.p)) },
		"Symmetries": func() []any { l, e := Symmetries(a.p); return []any{l, e} },
		"Same":       func() []any { m, e := Same(a.p, a.q, a.how); return []any{m, e} },
		"Moire":      func() []any { together, beat, e := Moire(a.p, a.q); return []any{together, beat, e} },
		"Fit":        func() []any { return list(Fit(a.phases, a.steps)) },
		"Index": func() []any {
			plate, holes, off, e := Index(a.plates, a.num, a.den)
			return []any{plate, holes, off, e}
		},
		"Around": func() []any { return number(Around(a.path, a.parts)) },
	}
}

// roomy returns a copy of a list with room behind it that holds something.
func roomy[V any](l []V, behind V) []V {
	return append(slices.Clone(l), behind, behind, behind)[:len(l)]
}

// whole returns a list with the room behind it.
func whole[V any](l []V) []V { return l[:cap(l)] }

// memory returns a copy of all the lists of some arguments, with the room behind them.
func (a arguments) memory() []any {
	copied := []any{}
	for _, l := range [][]int{a.p.Rosette, a.p.Rubber, a.p.Shifts, a.q.Rosette, a.q.Rubber, a.q.Shifts, a.phases, a.plates} {
		copied = append(copied, slices.Clone(whole(l)))
	}
	copied = append(copied, slices.Clone(whole(a.path)))
	for _, arm := range whole(a.path) {
		for _, part := range []api.Whole{arm.C.X.Num, arm.C.X.Den, arm.C.Y.Num, arm.C.Y.Den} {
			copied = append(copied, slices.Clone(part.Groups))
		}
	}
	return copied
}

// isEmpty reports whether a result is a zero value, or a list without elements.
func isEmpty(v any) bool {
	value := reflect.ValueOf(v)
	return value.IsZero() || value.Kind() == reflect.Slice && value.Len() == 0
}

// overwrite changes all the memory that a result has.
func overwrite(v any) {
	switch x := v.(type) {
	case []int:
		for i := range whole(x) {
			whole(x)[i] = -5
		}
	case []api.Move:
		for i := range whole(x) {
			whole(x)[i] = api.Move{Cuts: -5}
		}
	case api.Frac:
		for _, groups := range [][]uint32{x.Num.Groups, x.Den.Groups} {
			for i := range whole(groups) {
				whole(groups)[i] = 5
			}
		}
	}
}

// check makes all calls twice, and reports results that are not zero values beside an error (R2), arguments that have changed, memory that is shared, and results that depend on earlier calls (R3). It counts the calls without an error.
func (a arguments) check(t *testing.T, fine map[string]int) {
	t.Helper()
	for _, l := range []*[]int{&a.p.Rosette, &a.p.Rubber, &a.p.Shifts, &a.q.Rosette, &a.q.Rubber, &a.q.Shifts, &a.phases, &a.plates} {
		*l = roomy(*l, 77)
	}
	a.path = roomy(a.path, api.Arm{K: 77})
	before := a.memory()
	for name, call := range calls(a) {
		results := call()
		if again := call(); !reflect.DeepEqual(results, again) {
			t.Fatal(name, "gives", results, "and then", again)
		}
		last := len(results) - 1
		if results[last] == api.OK {
			fine[name]++
		} else if slices.ContainsFunc(results[:last], func(v any) bool { return !isEmpty(v) }) {
			t.Fatal(name, results)
		}
		text := call()
		for _, v := range results {
			overwrite(v)
		}
		if again := call(); !reflect.DeepEqual(text, again) {
			t.Fatal(name, "keeps its results")
		}
		if !reflect.DeepEqual(a.memory(), before) {
			t.Fatal(name, "has changed its arguments, or shares their memory")
		}
	}
}

// TestRules: P1, R2 and R3 for all calls, with valid arguments.
func TestRules(t *testing.T) {
	r := rand.New(rand.NewSource(54))
	fine := map[string]int{}
	for i := range 200 {
		p := randomProgram(r, []int{8, api.MaxSteps}[i%2], api.MaxShifts)
		a := arguments{p: p, q: changed(r, p, 3), from: r.Intn(100) - 50, n: r.Intn(api.MaxTable + 1), j: r.Intn(100) - 50, how: uint8(r.Intn(4)), steps: len(p.Rosette)}
		a.parts, a.den = 1+r.Intn(api.MaxParts), 1+r.Intn(api.MaxParts)
		a.num = r.Intn(a.den + 1)
		a.phases, _ = Phases(p, 0, 2+r.Intn(50))
		a.plates = []int{1 + r.Intn(api.MaxHoles), 1 + r.Intn(api.MaxHoles)}
		a.path = []api.Arm{arm(-r.Intn(20), 3, 4), arm(1+r.Intn(20), 1, 0)}
		a.check(t, fine)
	}
	for name := range calls(arguments{}) {
		if fine[name] < 80 {
			t.Error(name, "had too few calls without an error:", fine[name])
		}
	}
}

// ints are numbers at the limits, just beyond them, and far away.
var ints = []int{leastInt, leastInt + 1, -10001, -5001, -5000, -1001, -1000, -1, 0, 1, 2, 3, 12, 13, 16, 17, 95, 96, 97, 200, 201, 360, 361, 1000, 1001, 5000, 5001, 10000, 10001, greatestInt - 1, greatestInt}

// anyInt returns any number, half of the time a usual one.
func anyInt(r *rand.Rand, usual int) int {
	if r.Intn(2) == 0 {
		return r.Intn(usual + 1)
	}
	return ints[r.Intn(len(ints))]
}

// anyList returns a list of any length, often with usual numbers alone.
func anyList(r *rand.Rand, usual int) []int {
	var l []int
	for range []int{0, 1, 2, 3, 4, 5, 7, 12, 13, 16, 17, 31, 33, 96, 97, 201}[r.Intn(16)] {
		l = append(l, r.Intn(usual+1))
	}
	if len(l) > 0 && r.Intn(3) == 0 {
		l[r.Intn(len(l))] = anyInt(r, usual)
	}
	return l
}

// anyProgram returns a program that is valid but for some of its fields.
func anyProgram(r *rand.Rand) api.Program {
	p := randomProgram(r, 12, 4)
	for range r.Intn(3) {
		switch r.Intn(6) {
		case 0:
			p.Rosette = anyList(r, 3)
		case 1:
			p.Rubber = anyList(r, 0)
		case 2:
			p.Shifts = anyList(r, 2)
		case 3:
			p.Start = anyInt(r, 9)
		case 4:
			p.Throw = anyInt(r, 9)
		case 5:
			p.Advance = anyInt(r, 9)
		}
	}
	return p
}

// TestAnyArguments: P1, R5 to R7: whatever the arguments are, each call ends without a panic, and with zero values beside an error.
func TestAnyArguments(t *testing.T) {
	r := rand.New(rand.NewSource(55))
	fine := map[string]int{}
	for range 4000 {
		a := arguments{
			p: anyProgram(r), q: anyProgram(r), from: anyInt(r, 9), n: anyInt(r, 9), j: anyInt(r, 9), steps: anyInt(r, 9), parts: anyInt(r, 9),
			num: anyInt(r, 9), den: anyInt(r, 9), how: uint8(r.Intn(256) * r.Intn(2)), phases: anyList(r, 3), plates: anyList(r, 9),
		}
		if r.Intn(2) == 0 && Check(a.p) == api.OK {
			a.q = changed(r, a.p, 3)
		}
		for range r.Intn(4) {
			a.path = append(a.path, arm(anyInt(r, 9), anyInt(r, 9), 1))
		}
		if len(a.path) > 0 && r.Intn(4) == 0 {
			a.path[0].C.X = []api.Frac{{}, {Num: api.Whole{Neg: true}}, {Den: api.Whole{Groups: []uint32{0}}}}[r.Intn(3)]
		}
		a.check(t, fine)
	}
	for name := range calls(arguments{}) {
		if fine[name] < 100 {
			t.Error(name, "had too few calls without an error:", fine[name])
		}
	}
}

// TestEmptyLists: R4, an empty list is as nil: it is no rosette, no rubber and no shifts, and no plates or phases, but a path.
func TestEmptyLists(t *testing.T) {
	for _, l := range [][]int{nil, {}} {
		p, q, s := flames(1), flames(1), flames(1)
		p.Rosette, q.Rubber, s.Shifts = l, l, l
		_, fit := Fit(l, 3)
		_, _, _, index := Index(l, 1, 2)
		got := []api.Errno{Check(p), Check(q), Check(s), fit, index}
		if !slices.Equal(got, []api.Errno{api.ErrRosette, api.ErrRubber, api.ErrProgram, api.ErrArg, api.ErrArg}) {
			t.Error(got)
		}
	}
	for _, path := range [][]api.Arm{nil, {}} {
		if n, e := Around(path, 5); n != 1 || e != api.OK {
			t.Error(n, e)
		}
	}
}
