package plate_test

import (
	"math/rand"
	"reflect"
	"slices"
	"testing"

	"barleycorn/api"
	"barleycorn/plate"
)

// arguments are those of all calls.
type arguments struct {
	s              api.Store
	a              api.Act
	book           []api.Act
	want, seen     []api.Spot
	sheet          api.Sheet
	band           api.Band
	mirror         bool
	life, item     int
	tol, grow, per int
}

// calls are all the functions; what they return, with the error last.
func (a arguments) calls() map[string]func() []any {
	return map[string]func() []any{
		"Check":    func() []any { return []any{plate.Check(a.s)} },
		"Do":       func() []any { s, e := plate.Do(a.s, a.a); return []any{s, e} },
		"Play":     func() []any { s, at, e := plate.Play(a.life, a.book); return []any{at, s, e} },
		"Where":    func() []any { l, e := plate.Where(a.life, a.book, a.item); return []any{l, e} },
		"Counts":   func() []any { stock, issued, spoiled, e := plate.Counts(a.s); return []any{stock, issued, spoiled, e} },
		"Line":     func() []any { l, e := plate.Line(a.s, a.item); return []any{l, e} },
		"Right":    func() []any { is, e := plate.Right(a.s, a.item); return []any{is, e} },
		"Register": func() []any { b, e := plate.Register(a.want, a.seen, a.tol); return []any{b, e} },
		"Proof":    func() []any { l, e := plate.Proof(a.sheet, a.band, a.grow, a.mirror); return []any{l, e} },
		"Gap":      func() []any { n, e := plate.Gap(a.sheet, a.band); return []any{n, e} },
		"Lasts":    func() []any { n, e := plate.Lasts(a.sheet, a.band, a.per); return []any{n, e} },
	}
}

// roomy returns a copy of a list with room behind it that holds something.
func roomy[V any](l []V, behind V) []V {
	return append(slices.Clone(l), behind, behind, behind)[:len(l)]
}

// whole returns a list with the room behind it.
func whole[V any](l []V) []V { return l[:cap(l)] }

// withRoom returns arguments whose lists have room behind them.
func (a arguments) withRoom() arguments {
	a.s.Items, a.s.Prints = roomy(a.s.Items, die(7, 77)), roomy(a.s.Prints, api.Print{Plate: 77})
	a.book = roomy(a.book, api.Act{Kind: 77})
	a.want, a.seen = roomy(a.want, api.Spot{X: 77}), roomy(a.seen, api.Spot{X: 77})
	a.band = roomy(a.band, []int{77})
	for i, l := range a.band {
		a.band[i] = roomy(l, 77)
	}
	return a
}

// memory returns a copy of all the lists of some arguments, with the room behind them.
func (a arguments) memory() []any {
	copied := []any{slices.Clone(whole(a.s.Items)), slices.Clone(whole(a.s.Prints)), slices.Clone(whole(a.book)), slices.Clone(whole(a.want)), slices.Clone(whole(a.seen))}
	for _, l := range whole(a.band) {
		copied = append(copied, slices.Clone(whole(l)))
	}
	return copied
}

// isEmpty reports whether a result is a zero value, or a list without elements, or a store that is the zero value but for such lists.
func isEmpty(v any) bool {
	if s, is := v.(api.Store); is {
		return areSame(s, api.Store{})
	}
	value := reflect.ValueOf(v)
	return value.IsZero() || value.Kind() == reflect.Slice && value.Len() == 0
}

// fill changes all the memory that a list has.
func fill[V any](l []V, v V) {
	for i := range whole(l) {
		whole(l)[i] = v
	}
}

// overwrite changes all the memory that a result has.
func overwrite(v any) {
	switch x := v.(type) {
	case []int:
		fill(x, -5)
	case []bool:
		for i, is := range whole(x) {
			whole(x)[i] = !is
		}
	case api.Store:
		fill(x.Items, die(-5, -5))
		fill(x.Prints, api.Print{Plate: -5, State: 5})
	}
}

// check makes all calls twice, and reports results that are not zero values beside an error (R2), arguments that have changed, memory that is shared, and results that depend on earlier calls (R3). It counts the calls without an error.
func (a arguments) check(t *testing.T, fine map[string]int) {
	t.Helper()
	a = a.withRoom()
	before := a.memory()
	for name, call := range a.calls() {
		results, again := call(), call()
		if !reflect.DeepEqual(results, again) {
			t.Fatal(name, "gives", results, "and then", again)
		}
		last := len(results) - 1
		zeros := results[:last]
		if name == "Play" {
			zeros = results[1:last] // With an error of an act, Play also returns its index.
		}
		if results[last] == api.OK {
			fine[name]++
		} else if slices.ContainsFunc(zeros, func(v any) bool { return !isEmpty(v) }) {
			t.Fatal(name, results)
		}
		for _, v := range results {
			overwrite(v)
		}
		if third := call(); !reflect.DeepEqual(third, again) {
			t.Fatal(name, "keeps its results")
		}
		if !reflect.DeepEqual(a.memory(), before) {
			t.Fatal(name, "has changed its arguments, or shares their memory")
		}
	}
}

// anyArguments returns valid arguments for all calls. The item 0 is there in the store, and after the book.
func anyArguments(r *rand.Rand) arguments {
	a := arguments{life: 1 + r.Intn(100), tol: r.Intn(50), grow: r.Intn(21), per: 1 + r.Intn(1000), mirror: r.Intn(2) == 0}
	for len(a.s.Items) == 0 {
		a.s = randomStore(r)
	}
	for a.a = randomAct(r, a.s); ; a.a = randomAct(r, a.s) {
		if _, e := afterAct(a.s, a.a); e == api.OK {
			break
		}
	}
	for len(a.book) == 0 {
		a.book = randomBook(r, a.life, r.Intn(40))
	}
	for {
		a.sheet, a.band = randomBand(r, 2)
		if gapOf(a.sheet, a.band) > 0 {
			break
		}
	}
	for range 1 + r.Intn(20) {
		mark := api.Spot{X: r.Intn(20001) - 10000, Y: r.Intn(20001) - 10000}
		a.want = append(a.want, mark)
		a.seen = append(a.seen, api.Spot{X: max(-10000, mark.X-r.Intn(a.tol+1)), Y: min(10000, mark.Y+r.Intn(a.tol+1))})
	}
	return a
}

// TestRules: P1, R2 and R3 for all calls, with valid arguments.
func TestRules(t *testing.T) {
	r := rand.New(rand.NewSource(100))
	fine := map[string]int{}
	for range 500 {
		anyArguments(r).check(t, fine)
	}
	for name := range (arguments{}).calls() {
		if fine[name] < 500 {
			t.Error(name, "had too few calls without an error:", fine[name])
		}
	}
}

// changed returns arguments that are valid but for some of their numbers and lists.
func (a arguments) changed(r *rand.Rand) arguments {
	mark, act, line := r.Intn(len(a.want)), r.Intn(len(a.book)), r.Intn(len(a.band))
	changeable := []*int{
		&a.life, &a.item, &a.tol, &a.grow, &a.per, &a.a.Item, &a.a.To, &a.a.N, &a.want[mark].X, &a.want[mark].Y, &a.seen[mark].X, &a.seen[mark].Y,
		&a.book[act].Item, &a.book[act].To, &a.book[act].N, &a.sheet.Cols, &a.sheet.Rows, &a.sheet.Weight, &a.sheet.Clear, &a.sheet.Lean, &a.band[line][r.Intn(len(a.band[line]))],
	}
	for range r.Intn(5) {
		*changeable[r.Intn(len(changeable))] = anyNumber(r)
	}
	switch r.Intn(9) {
	case 0:
		a.a.Kind, a.book[act].Kind = uint8(r.Intn(256)), uint8(r.Intn(10))
	case 1:
		a.book = slices.Repeat(a.book, r.Intn(9))
	case 2:
		a.want = slices.Repeat(a.want, r.Intn(3))
	case 3:
		a.seen = a.seen[:mark]
	case 4:
		a.band = append(slices.Clone(a.band[1:]), a.band[0])
	case 5:
		a.band = a.band[:r.Intn(2)]
	case 6, 7:
		a.s = spoiledStore(r, a.s)
	}
	return a
}

// TestAnyArguments: P1, R5 to R7: whatever the arguments are, each call ends without a panic, and with zero values beside an error.
func TestAnyArguments(t *testing.T) {
	r := rand.New(rand.NewSource(101))
	fine := map[string]int{}
	for range 5000 {
		anyArguments(r).changed(r).check(t, fine)
	}
	for name := range (arguments{}).calls() {
		if fine[name] < 500 || fine[name] > 4950 {
			t.Error(name, "had too few calls with an error, or without one:", fine[name])
		}
	}
}

// TestEmptyLists: R4, an empty list is as nil.
func TestEmptyLists(t *testing.T) {
	empty := api.Store{Life: 3, Items: []api.Item{}, Prints: []api.Print{}}
	hasCheck(t, "empty", empty, true)
	gives(t, "empty", empty, engrave(), func(s *api.Store) { s.Items = items(die(0, 0)) })
	counts(t, empty, 0, 0, 0)
	plays(t, "empty", 3, []api.Act{}, api.Store{Life: 3})
	registers(t, "empty", []api.Spot{}, []api.Spot{}, 0, api.Box{}, api.ErrMany)
	s, _ := leaning()
	for _, b := range []api.Band{nil, {}} {
		l, e := plate.Proof(s, b, 2, true)
		is(t, "empty", l, e, make([]bool, 27)...)
		n, e := plate.Gap(s, b)
		isNumber(t, "empty", n, e, 0, api.ErrNone)
		n, e = plate.Lasts(s, b, 2)
		isNumber(t, "empty", n, e, 0, api.ErrNone)
	}
	for _, l := range [][]int{nil, {}} {
		n, e := plate.Gap(s, api.Band{l, l})
		isNumber(t, "empty lines", n, e, 0, api.ErrInk)
	}
}
