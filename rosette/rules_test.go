package rosette

import (
	"math/rand"
	"reflect"
	"slices"
	"testing"

	"barleycorn/api"
)

// roomy returns a copy of a list with room behind it that holds something.
func roomy(l []int) []int {
	copied := append(make([]int, 0, len(l)+3), l...)
	copied = append(copied, 77, 77, 77)
	return copied[:len(l)]
}

// arguments are those of all calls.
type arguments struct {
	f, g, b, c []int
	p, s, n    int
}

// lists returns the lists of some arguments, with the room behind them.
func (a arguments) lists() [][]int {
	return [][]int{a.f[:cap(a.f)], a.g[:cap(a.g)], a.b[:cap(a.b)], a.c[:cap(a.c)]}
}

// calls are all the functions; what they return, with the error last.
func (a arguments) calls() map[string]func() []any {
	list := func(l []int, e api.Errno) []any { return []any{l, e} }
	number := func(n int, e api.Errno) []any { return []any{n, e} }
	return map[string]func() []any{
		"Check":       func() []any { return []any{Check(a.f)} },
		"CheckRubber": func() []any { return []any{CheckRubber(a.b, a.n)} },
		"Lift":        func() []any { return list(Lift(a.f, a.b)) },
		"Under":       func() []any { return list(Under(a.f, a.b)) },
		"Close":       func() []any { return list(Close(a.f, a.b)) },
		"Grind":       func() []any { return list(Grind(a.f, a.b)) },
		"Find":        func() []any { return list(Find(a.f, a.b)) },
		"Count":       func() []any { return number(Count(a.f, a.b)) },
		"Contacts":    func() []any { return list(Contacts(a.f, a.b, a.p)) },
		"Needed":      func() []any { return list(Needed(a.f, a.b)) },
		"Both":        func() []any { return list(Both(a.b, a.c)) },
		"Turned":      func() []any { return list(Turned(a.f, a.s)) },
		"Mirrored":    func() []any { return list(Mirrored(a.f)) },
		"Period":      func() []any { return number(Period(a.f)) },
		"Axes":        func() []any { return list(Axes(a.f)) },
		"Match":       func() []any { return number(Match(a.f, a.g)) },
	}
}

// isEmpty reports whether a result is a zero value, or a list without elements.
func isEmpty(v any) bool {
	value := reflect.ValueOf(v)
	return value.IsZero() || value.Kind() == reflect.Slice && value.Len() == 0
}

// check makes all calls twice, and reports results that are not zero values beside an error (R2), arguments that have changed, memory that is shared, and results that depend on earlier calls (R3). It counts the calls without an error.
func (a arguments) check(t *testing.T, fine map[string]int) {
	t.Helper()
	a.f, a.g, a.b, a.c = roomy(a.f), roomy(a.g), roomy(a.b), roomy(a.c)
	var before [][]int
	for _, l := range a.lists() {
		before = append(before, slices.Clone(l))
	}
	for name, call := range a.calls() {
		results := call()
		if again := call(); !reflect.DeepEqual(results, again) {
			t.Fatal(name, "gives", results, "and then", again)
		}
		last := len(results) - 1
		if results[last] == api.OK {
			fine[name]++
		} else if slices.ContainsFunc(results[:last], func(v any) bool { return !isEmpty(v) }) {
			t.Fatal(name, results)
		}
		if l, ok := results[0].([]int); ok {
			for i := range l[:cap(l)] {
				l[:cap(l)][i] = -5
			}
		}
		if !reflect.DeepEqual(a.lists(), before) {
			t.Fatal(name, "has changed its arguments, or shares their memory")
		}
	}
}

// TestRules: P1, R2 and R3 for all calls, with valid arguments.
func TestRules(t *testing.T) {
	r := rand.New(rand.NewSource(37))
	fine := map[string]int{}
	for i := range 300 {
		f, _ := randomPair(r)
		a := arguments{f: f, b: randomRubber(r, len(f), 3, 7), c: randomRubber(r, 31, 9, 25), p: r.Intn(len(f)), s: r.Intn(300) - 150, n: len(f)}
		if i%2 == 0 {
			a.f = liftOf(f, a.b)
		}
		a.g = a.f
		if i%3 == 0 {
			a.g = append(slices.Clone(a.f[1:]), a.f[0])
		}
		a.check(t, fine)
	}
	for name := range (arguments{}).calls() {
		if fine[name] < 100 {
			t.Error(name, "had too few calls without an error:", fine[name])
		}
	}
}

// TestAnyArguments: P1, R5 to R7: whatever the arguments are, each call ends without a panic, and with zero values beside an error.
func TestAnyArguments(t *testing.T) {
	r := rand.New(rand.NewSource(38))
	ints := []int{leastInt, leastInt + 1, -10001, -10000, -97, -1, 0, 1, 2, 3, 31, 32, 95, 96, 97, 9999, 10000, 10001, greatestInt - 1, greatestInt}
	anyInt := func() int { return ints[r.Intn(len(ints))] }
	anyList := func(usual int) []int {
		var l []int
		for range []int{0, 1, 2, 3, 4, 5, 7, 9, 31, 32, 33, 95, 96, 97, 98}[r.Intn(15)] {
			l = append(l, r.Intn(usual+1))
		}
		if len(l) > 0 && r.Intn(2) == 0 {
			l[r.Intn(len(l))] = anyInt()
		}
		if len(l) > 0 && r.Intn(3) > 0 {
			l[len(l)/2] = 0
		}
		return l
	}
	fine := map[string]int{}
	for range 5000 {
		a := arguments{f: anyList(3), g: anyList(3), b: anyList(2), c: anyList(2), p: anyInt(), s: anyInt(), n: anyInt()}
		if r.Intn(4) == 0 {
			a.g = a.f
		}
		a.check(t, fine)
	}
	for name := range (arguments{}).calls() {
		if fine[name] < 20 {
			t.Error(name, "had too few calls without an error:", fine[name])
		}
	}
}

// TestEmptyLists: R4, an empty list is as nil: neither is a rosette or a rubber.
func TestEmptyLists(t *testing.T) {
	for _, l := range [][]int{nil, {}} {
		if e := Check(l); e != api.ErrRosette {
			t.Error(e)
		}
		if _, e := Lift([]int{1, 2, 3}, l); e != api.ErrRubber {
			t.Error(e)
		}
		if _, e := Both(l, l); e != api.ErrRubber {
			t.Error(e)
		}
	}
}
