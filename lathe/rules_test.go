package lathe_test

import (
	"math/rand"
	"reflect"
	"slices"
	"testing"

	"barleycorn/api"
	"barleycorn/lathe"
)

// arguments are those of all calls.
type arguments struct {
	s                        api.Sheet
	c                        api.Screen
	b, wish                  [][]int
	mask                     [][]bool
	top, bottom, word        []int
	n, by, size, cols, lines int
}

// calls are all the functions; what they return, with the error last.
func (a arguments) calls() map[string]func() []any {
	return map[string]func() []any{
		"CheckSheet": func() []any { return []any{lathe.CheckSheet(a.s)} },
		"Check":      func() []any { return []any{lathe.Check(a.s, a.b)} },
		"Clashes":    func() []any { l, e := lathe.Clashes(a.s, a.b); return []any{l, e} },
		"Ink":        func() []any { l, e := lathe.Ink(a.s, a.b); return []any{l, e} },
		"Between":    func() []any { b, e := lathe.Between(a.s, a.top, a.bottom, a.n); return []any{[][]int(b), e} },
		"Most":       func() []any { n, e := lathe.Most(a.s, a.top, a.bottom); return []any{n, e} },
		"Room":       func() []any { n, room, e := lathe.Room(a.s, a.c); return []any{n, room, e} },
		"Draw":       func() []any { b, e := lathe.Draw(a.s, a.c, a.wish); return []any{[][]int(b), e} },
		"Hide":       func() []any { b, e := lathe.Hide(a.s, a.c, a.mask); return []any{[][]int(b), e} },
		"Seen":       func() []any { l, e := lathe.Seen(a.s, a.b, a.c, a.by); return []any{l, e} },
		"Mask":       func() []any { l, e := lathe.Mask(a.word, a.size, a.cols, a.lines); return []any{l, e} },
		"Spell":      func() []any { l, e := lathe.Spell(a.mask, a.size, a.n); return []any{l, e} },
	}
}

// roomy returns a copy of a list with room behind it that holds something.
func roomy[V any](l []V, behind V) []V {
	return append(slices.Clone(l), behind, behind, behind)[:len(l)]
}

// allRoomy returns a copy of some lists; there is room behind each of them, and behind them all.
func allRoomy[V any](lists [][]V, behind V) [][]V {
	lists = roomy(lists, []V{behind})
	for i, l := range lists {
		lists[i] = roomy(l, behind)
	}
	return lists
}

// whole returns a list with the room behind it.
func whole[V any](l []V) []V { return l[:cap(l)] }

// withRoom returns arguments whose lists have room behind them.
func (a arguments) withRoom() arguments {
	a.b, a.wish, a.mask = allRoomy(a.b, 77), allRoomy(a.wish, 77), allRoomy(a.mask, true)
	a.top, a.bottom, a.word = roomy(a.top, 77), roomy(a.bottom, 77), roomy(a.word, 77)
	return a
}

// memory returns a copy of all the lists of some arguments, with the room behind them.
func (a arguments) memory() []any {
	var copied []any
	for _, l := range slices.Concat(whole(a.b), whole(a.wish), [][]int{a.top, a.bottom, a.word}) {
		copied = append(copied, slices.Clone(whole(l)))
	}
	for _, l := range whole(a.mask) {
		copied = append(copied, slices.Clone(whole(l)))
	}
	return copied
}

// isEmpty reports whether a result is a zero value, or a list without elements.
func isEmpty(v any) bool {
	value := reflect.ValueOf(v)
	return value.IsZero() || value.Kind() == reflect.Slice && value.Len() == 0
}

// fill changes all the memory that a list has.
func fill[V any](l []V, v V) {
	for i := range whole(l) {
		whole(l)[i] = v
	}
}

// overwriteAll changes all the memory that some lists have, and reports whether two of them share any.
func overwriteAll[V comparable](lists [][]V, no, yes V) bool {
	for _, l := range lists {
		fill(l, no)
	}
	for i, l := range lists {
		fill(l, yes)
		for k, other := range lists {
			if k != i && slices.Contains(whole(other), yes) {
				return true
			}
		}
		fill(l, no)
	}
	return false
}

// overwrite changes all the memory that a result has, and reports whether two of its lists share any.
func overwrite(v any) bool {
	switch x := v.(type) {
	case []int:
		fill(x, -5)
	case []bool:
		for i, is := range whole(x) {
			whole(x)[i] = !is
		}
	case []api.Clash:
		fill(x, api.Clash{Upper: -5})
	case [][]int:
		return overwriteAll(x, -5, -6)
	case [][]bool:
		return overwriteAll(x, false, true)
	}
	return false
}

// check makes all calls twice, and reports results that are not zero values beside an error (R2), arguments that have changed, memory that is shared, and results that depend on earlier calls (R3). It counts the calls without an error.
func (a arguments) check(t *testing.T, fine map[string]int) {
	t.Helper()
	a = a.withRoom()
	before := a.memory()
	for name, call := range a.calls() {
		results, again := call(), call()
		if !reflect.DeepEqual(results, again) {
			t.Fatal(name, "gives", results, "and then", again)
		}
		last := len(results) - 1
		if results[last] == api.OK {
			fine[name]++
		} else if slices.ContainsFunc(results[:last], func(v any) bool { return !isEmpty(v) }) {
			t.Fatal(name, results)
		}
		if slices.ContainsFunc(results, overwrite) {
			t.Fatal(name, "gives lists that share memory")
		}
		if third := call(); !reflect.DeepEqual(third, again) {
			t.Fatal(name, "keeps its results")
		}
		if !reflect.DeepEqual(a.memory(), before) {
			t.Fatal(name, "has changed its arguments, or shares their memory")
		}
	}
}

// anyArguments returns valid arguments for all calls.
func anyArguments(r *rand.Rand) arguments {
	a := arguments{n: 2, by: r.Intn(2), lines: 5 + r.Intn(8)}
	for len(a.mask) < 5 || a.s.Cols < 7 {
		a.s, a.c = randomHiding(r)
		a.mask = randomMask(r, len(rowsOf(a.s, a.c)), a.s.Cols)
	}
	a.b = randomBand(r, a.s)
	a.wish = randomWishes(r, len(a.mask), a.s.Cols, roomOf(a.s, a.c))
	a.top, a.bottom = all(a.s.Cols, 0), all(a.s.Cols, a.s.Rows-a.s.Weight)
	a.size, a.cols, a.word = a.s.Cols/7, a.s.Cols, randomWord(r, 2)
	return a
}

// TestRules: P1, R2 and R3 for all calls, with valid arguments.
func TestRules(t *testing.T) {
	r := rand.New(rand.NewSource(84))
	fine := map[string]int{}
	for range 300 {
		anyArguments(r).check(t, fine)
	}
	for name := range (arguments{}).calls() {
		if fine[name] < 300 {
			t.Error(name, "had too few calls without an error:", fine[name])
		}
	}
}

// ints are numbers at the limits, just beyond them, and far away.
var ints = []int{leastInt, leastInt + 1, -1000000, -2, -1, 0, 1, 2, 3, 5, 8, 9, 12, 13, 15, 16, 17, 20, 21, 40, 41, 60, 61, 32767, 32768, 1000000, greatestInt - 1, greatestInt}

// anyInt returns one of these numbers.
func anyInt(r *rand.Rand) int { return ints[r.Intn(len(ints))] }

// shapeless returns lists that are longer or shorter than they were, or more, or fewer.
func shapeless[V any](r *rand.Rand, lists [][]V) [][]V {
	lists = slices.Clone(lists)
	switch i := r.Intn(len(lists)); r.Intn(5) {
	case 0:
		lists[i] = nil
	case 1:
		lists[i] = lists[i][1:]
	case 2:
		lists[i] = append(slices.Clone(lists[i]), lists[i][0])
	case 3:
		lists = slices.Repeat(lists, r.Intn(4))
	case 4:
		lists = lists[1:]
	}
	return lists
}

// changed returns arguments that are valid but for some of their numbers and lists.
func (a arguments) changed(r *rand.Rand) arguments {
	numbers := []*int{
		&a.s.Cols, &a.s.Rows, &a.s.Weight, &a.s.Clear, &a.s.Lean, &a.c.Period, &a.c.Phase, &a.n, &a.by, &a.size, &a.cols, &a.lines,
		&a.top[0], &a.bottom[r.Intn(len(a.bottom))], &a.word[r.Intn(2)], &a.wish[0][0], &a.wish[4][r.Intn(len(a.wish[4]))],
	}
	if len(a.b) > 0 {
		numbers = append(numbers, &a.b[0][0], &a.b[len(a.b)-1][r.Intn(len(a.b[0]))])
	}
	for range r.Intn(4) {
		*numbers[r.Intn(len(numbers))] = anyInt(r)
	}
	switch r.Intn(8) {
	case 0:
		a.wish, a.mask = shapeless(r, a.wish), shapeless(r, a.mask)
	case 1:
		a.b = shapeless(r, append(slices.Clone(a.b), a.top))
	case 2:
		a.top, a.bottom = a.bottom, a.top
	case 3:
		a.word = slices.Repeat(a.word, r.Intn(9))
	}
	return a
}

// TestAnyArguments: P1, R5 to R7: whatever the arguments are, each call ends without a panic, and with zero values beside an error.
func TestAnyArguments(t *testing.T) {
	r := rand.New(rand.NewSource(85))
	fine := map[string]int{}
	for range 5000 {
		anyArguments(r).changed(r).check(t, fine)
	}
	for name := range (arguments{}).calls() {
		if fine[name] < 500 || fine[name] == 5000 {
			t.Error(name, "had too few calls with an error, or without one:", fine[name])
		}
	}
}

// TestEmptyLists: R4, an empty list is as nil.
func TestEmptyLists(t *testing.T) {
	for _, l := range [][]int{nil, {}} {
		if e := lathe.Check(example, api.Band{l}); e != api.ErrInk {
			t.Error(e)
		}
		b, e := lathe.Between(example, l, l, 2)
		fails(t, l, b, e, api.ErrArg)
		m, e := lathe.Mask(l, 40, 2, 5)
		are(t, l, m, e, yes("..", "..", "..", "..", "..")...)
	}
	for _, lists := range [][][]int{nil, {}} {
		if e := lathe.Check(example, lists); e != api.OK {
			t.Error(e)
		}
		b, e := lathe.Draw(example, screenOf(16, 15), lists)
		are(t, lists, b, e)
	}
	for _, lists := range [][][]bool{nil, {}} {
		b, e := lathe.Hide(example, screenOf(16, 15), lists)
		are(t, lists, b, e)
		l, e := lathe.Spell(lists, 1, 0)
		fails(t, lists, l, e, api.ErrNone)
	}
	l, e := lathe.Spell([][]bool{nil, {}, nil, {}, {}}, 40, 0)
	is(t, "no glyph", l, e)
}
