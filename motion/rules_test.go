package motion

import (
	"math/rand"
	"reflect"
	"slices"
	"testing"

	"barleycorn/api"
	"barleycorn/exact"
)

// roomy returns a copy of a list with room behind it that holds something.
func roomy[T any](list []T, filling T) []T {
	copied := append(make([]T, 0, len(list)+3), list...)
	copied = append(copied, filling, filling, filling)
	return copied[:len(list)]
}

// roomyTurn returns a turning number whose lists have room behind them.
func roomyTurn(c api.Turn) api.Turn {
	for _, n := range []*api.Whole{&c.X.Num, &c.X.Den, &c.Y.Num, &c.Y.Den} {
		n.Groups = roomy(n.Groups, 77)
	}
	return c
}

// roomyPath returns a path whose lists have room behind them.
func roomyPath(p []api.Arm) []api.Arm {
	var copied []api.Arm
	for _, a := range p {
		copied = append(copied, api.Arm{K: a.K, C: roomyTurn(a.C)})
	}
	return roomy(copied, api.Arm{K: 5})
}

// roomyMachine returns a machine whose lists have room behind them.
func roomyMachine(m []api.Setting) []api.Setting {
	var copied []api.Setting
	for _, s := range m {
		s.C = roomyTurn(s.C)
		copied = append(copied, s)
	}
	return roomy(copied, api.Setting{Kind: 5})
}

// arguments are those of all calls.
type arguments struct {
	p, q     []api.Arm
	m        []api.Setting
	u        api.Turn
	r        api.Frac
	n        int
	how      uint8
	wheels   []int
	num, den int
}

// withRoom returns arguments whose lists have room behind them.
func (a arguments) withRoom() arguments {
	a.p, a.q, a.m, a.u = roomyPath(a.p), roomyPath(a.q), roomyMachine(a.m), roomyTurn(a.u)
	a.r = roomyTurn(api.Turn{X: a.r}).X
	a.wheels = roomy(a.wheels, 20)
	return a
}

// groups returns the groups of all numbers of some values, with the room behind them.
func groups(values ...any) [][]uint32 {
	var all [][]uint32
	for _, v := range values {
		switch x := v.(type) {
		case api.Frac:
			all = append(all, x.Num.Groups[:cap(x.Num.Groups)], x.Den.Groups[:cap(x.Den.Groups)])
		case api.Turn:
			all = append(all, groups(x.X, x.Y)...)
		case []api.Arm:
			for _, a := range x {
				all = append(all, groups(a.C)...)
			}
		case []api.Setting:
			for _, s := range x {
				all = append(all, groups(s.C)...)
			}
		}
	}
	return all
}

// copied returns a copy of some lists.
func copied(all [][]uint32) [][]uint32 {
	var copies [][]uint32
	for _, list := range all {
		copies = append(copies, append([]uint32{}, list...))
	}
	return copies
}

// shared reports whether writing to one of some lists changes one of the others.
func shared(made, others [][]uint32) bool {
	for i, list := range made {
		rest := append(slices.Clone(others), made[i+1:]...)
		before := copied(rest)
		for k := range list {
			list[k] ^= 1 << 31
		}
		if !slices.EqualFunc(rest, before, slices.Equal) {
			return true
		}
	}
	return false
}

// calls are all the functions; what they return, with the error last.
func (a arguments) calls() map[string]func() []any {
	return map[string]func() []any{
		"CheckPath":    func() []any { return []any{CheckPath(a.p)} },
		"CheckMachine": func() []any { return []any{CheckMachine(a.m)} },
		"Draw":         func() []any { p, turns, e := Draw(a.m); return []any{p, turns, e} },
		"At":           func() []any { z, e := At(a.p, a.u); return []any{z, e} },
		"Points":       func() []any { l, e := Points(a.p, a.n); return []any{l, e} },
		"Times":        func() []any { n, e := Times(a.p); return []any{n, e} },
		"Order":        func() []any { n, e := Order(a.p); return []any{n, e} },
		"Mirrors":      func() []any { is, e := Mirrors(a.p); return []any{is, e} },
		"Same":         func() []any { is, e := Same(a.p, a.q, a.how); return []any{is, e} },
		"Stops":        func() []any { n, e := Stops(a.p); return []any{n, e} },
		"Inside":       func() []any { is, e := Inside(a.p, a.r); return []any{is, e} },
		"Train":        func() []any { l, e := Train(a.wheels, a.num, a.den); return []any{l, e} },
	}
}

// isEmpty reports whether a result is a zero value, or a list without elements.
func isEmpty(v any) bool {
	value := reflect.ValueOf(v)
	return value.IsZero() || value.Kind() == reflect.Slice && value.Len() == 0
}

// check makes all calls twice, and reports results that are not zero values beside an error (R2), arguments that have changed, memory that is shared, and results that depend on earlier calls (R3). It counts the calls without an error.
func (a arguments) check(t *testing.T, fine map[string]int) {
	t.Helper()
	a = a.withRoom()
	given := groups(a.p[:cap(a.p)], a.q[:cap(a.q)], a.m[:cap(a.m)], a.u, a.r)
	before := copied(given)
	ks := func() []any {
		return []any{slices.Clone(a.p[:cap(a.p)]), slices.Clone(a.q[:cap(a.q)]), slices.Clone(a.m[:cap(a.m)]), slices.Clone(a.wheels[:cap(a.wheels)])}
	}
	lists := ks()
	for name, call := range a.calls() {
		results := call()
		if !slices.EqualFunc(given, before, slices.Equal) || !reflect.DeepEqual(lists, ks()) {
			t.Fatal(name, "has changed its arguments")
		}
		if again := call(); !reflect.DeepEqual(results, again) {
			t.Fatal(name, "gives", results, "and then", again)
		}
		last := len(results) - 1
		if results[last] == api.OK {
			fine[name]++
		} else if slices.ContainsFunc(results[:last], func(v any) bool { return !isEmpty(v) }) {
			t.Fatal(name, results)
		}
		if shared(groups(results...), given) {
			t.Fatal(name, "shares memory", results)
		}
	}
}

// TestRules: P1, R2 and R3 for all calls, with valid arguments, equal ones among them.
func TestRules(t *testing.T) {
	r := rand.New(rand.NewSource(20))
	fine := map[string]int{}
	for i := range 150 {
		a := arguments{
			p: randomPath(t, r, 5, 6), q: randomPath(t, r, 5, 6), m: randomMachine(t, r),
			u: unit(r).given(t), r: frac(t, "7/2"), n: 1 + r.Intn(3), how: uint8(r.Intn(8)),
			wheels: []int{20, 30, 45, 60, 20 + i}, num: 1 + r.Intn(3), den: 1 + r.Intn(3),
		}
		if i%3 == 0 {
			a.q = a.p
		}
		a.check(t, fine)
	}
	arguments{u: turn(t, "1 0"), r: exact.FromInt(0), n: 1}.check(t, fine)
	for name := range (arguments{}).calls() {
		if fine[name] < 50 {
			t.Error(name, "had too few calls without an error:", fine[name])
		}
	}
}

// TestAnyArguments: P1, R5 to R7: whatever the arguments are, each call ends without a panic, and with zero values beside an error.
func TestAnyArguments(t *testing.T) {
	r := rand.New(rand.NewSource(21))
	fine := map[string]int{}
	bad := badTurns()
	ints := []int{leastInt, greatestInt, -97, -96, -65, -64, -1, 0, 1, 2, 11, 12, 16, 17, 64, 65, 96, 97, 200, 201}
	anyInt := func() int { return ints[r.Intn(len(ints))] }
	anyTurn := func() api.Turn {
		switch r.Intn(8) {
		case 0:
			return bad[r.Intn(len(bad))]
		case 1:
			return turn(t, []string{tenTo(359) + " 1", "0 1/" + tenTo(359), "999999999 1/999999999", "0 0"}[r.Intn(4)])
		case 2:
			return api.Turn{}
		}
		return unit(r).given(t)
	}
	anyPath := func() []api.Arm {
		var p []api.Arm
		k := -70 + r.Intn(70)
		for range r.Intn(27) {
			p = append(p, api.Arm{K: k, C: anyTurn()})
			k += r.Intn(9)
		}
		if r.Intn(3) == 0 {
			return p[:min(len(p), 2)]
		}
		return p
	}
	for range 300 {
		a := arguments{p: anyPath(), q: anyPath(), u: anyTurn(), r: anyTurn().X, n: anyInt(), how: uint8(r.Intn(10)), num: anyInt(), den: anyInt()}
		for range r.Intn(14) {
			a.m = append(a.m, api.Setting{Kind: uint8(r.Intn(8)), Num: anyInt(), Den: anyInt(), C: anyTurn()})
		}
		for range r.Intn(18) {
			a.wheels = append(a.wheels, anyInt())
		}
		a.check(t, fine)
	}
}

// TestEmptyLists: R4, empty lists are as nil, in C that have to be 0 and in paths.
func TestEmptyLists(t *testing.T) {
	empty := api.Whole{Groups: []uint32{}}
	blank := api.Frac{Num: empty, Den: empty}
	m := []api.Setting{slide(t, "3 4"), {Kind: api.SetSpindle, Num: 1, Den: 2, C: api.Turn{X: blank, Y: blank}}, {Kind: api.SetOver, C: api.Turn{Y: blank}}}
	p, turns, e := Draw(m)
	if e != api.OK || pathText(t, p) != "-1 3 -4" || text(t, turns) != "2" {
		t.Error(p, turns, e)
	}
	nothing := exact.FromInt(0)
	nothing.Num.Groups = []uint32{}
	q := []api.Arm{{K: 1, C: api.Turn{X: exact.FromInt(3), Y: nothing}}}
	if is, e := Same(q, path(t, "1 3 0"), 0); !is || e != api.OK {
		t.Error(is, e)
	}
	if is, e := Inside([]api.Arm{}, nothing); !is || e != api.OK {
		t.Error(is, e)
	}
	if e := CheckPath([]api.Arm{{K: 1, C: api.Turn{X: nothing, Y: nothing}}}); e != api.ErrPath {
		t.Error(e)
	}
}
