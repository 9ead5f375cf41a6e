package light_test

import (
	"math/rand"
	"reflect"
	"slices"
	"testing"

	"barleycorn/api"
	"barleycorn/light"
)

// arguments are those of all calls.
type arguments struct {
	s                       api.Surface
	l                       api.Light
	lights                  []api.Light
	yes, no                 api.Tilt
	n, pitch, width, height int
	a, b                    api.Shade
	w                       api.Work
	first                   api.Spot
	message                 []bool
	shades                  []api.Shade
}

// calls are all the functions; what they return, with the error last.
func calls(a arguments) map[string]func() []any {
	return map[string]func() []any{
		"Check":      func() []any { return []any{light.Check(a.s)} },
		"CheckLight": func() []any { return []any{light.CheckLight(a.l)} },
		"Facets":     func() []any { l, e := light.Facets(a.s); return []any{l, e} },
		"Bright":     func() []any { s, e := light.Bright(a.yes, a.pitch, a.l); return []any{s, e} },
		"Compare":    func() []any { return []any{light.Compare(a.a, a.b), api.OK} },
		"Shadows":    func() []any { l, e := light.Shadows(a.s, a.l); return []any{l, e} },
		"Picture":    func() []any { l, e := light.Picture(a.s, a.l); return []any{l, e} },
		"Levels":     func() []any { l, e := light.Levels(a.s, a.l, a.n); return []any{l, e} },
		"Flash":      func() []any { l, e := light.Flash(a.s, a.lights); return []any{l, e} },
		"Carve":      func() []any { s, e := light.Carve(a.w, a.first, a.pitch, a.width, a.height); return []any{s, e} },
		"Latent":     func() []any { l, e := light.Latent(a.message, a.yes, a.no); return []any{l, e} },
		"Shows":      func() []any { l, e := light.Shows(a.yes, a.no, a.pitch, a.lights); return []any{l, e} },
		"Read":       func() []any { l, e := light.Read(a.shades); return []any{l, e} },
	}
}

// roomy returns a copy of a list with room behind it that holds something.
func roomy[V any](l []V, behind V) []V {
	return append(slices.Clone(l), behind, behind, behind)[:len(l)]
}

// whole returns a list with the room behind it.
func whole[V any](l []V) []V { return l[:cap(l)] }

// withRoom returns arguments whose lists have room behind them.
func (a arguments) withRoom() arguments {
	a.s.Heights, a.lights, a.message = roomy(a.s.Heights, 77), roomy(a.lights, direction(7, 7, 77)), roomy(a.message, true)
	a.shades, a.w.Cuts = roomy(a.shades, shade(7, 77)), roomy(a.w.Cuts, cut(77))
	for i, c := range a.w.Cuts {
		a.w.Cuts[i].Spots = roomy(c.Spots, at(77, 77))
	}
	return a
}

// memory returns a copy of all the lists of some arguments, with the room behind them.
func (a arguments) memory() []any {
	copied := []any{slices.Clone(whole(a.s.Heights)), slices.Clone(whole(a.lights)), slices.Clone(whole(a.message)), slices.Clone(whole(a.shades))}
	for _, c := range whole(a.w.Cuts) {
		copied = append(copied, c.Press, c.Cross, slices.Clone(whole(c.Spots)))
	}
	return copied
}

// isEmpty reports whether a result is a zero value, or a list without elements.
func isEmpty(v any) bool {
	value := reflect.ValueOf(v)
	return value.IsZero() || value.Kind() == reflect.Slice && value.Len() == 0
}

// fill changes all the memory that a list has.
func fill[V any](l []V, v V) {
	for i := range whole(l) {
		whole(l)[i] = v
	}
}

// overwrite changes all the memory that a result has.
func overwrite(v any) {
	switch x := v.(type) {
	case []int:
		fill(x, -5)
	case []api.Tilt:
		fill(x, api.Tilt{X: -5})
	case []api.Shade:
		fill(x, shade(-5, -5))
	case api.Surface:
		fill(x.Heights, -5)
	case []bool:
		for i, is := range whole(x) {
			whole(x)[i] = !is
		}
	}
}

// check makes all calls twice, and reports results that are not zero values beside an error (R2), arguments that have changed, memory that is shared, and results that depend on earlier calls (R3). It counts the calls without an error.
func (a arguments) check(t *testing.T, fine map[string]int) {
	t.Helper()
	a = a.withRoom()
	before := a.memory()
	for name, call := range calls(a) {
		results, again := call(), call()
		if !reflect.DeepEqual(results, again) {
			t.Fatal(name, "gives", results, "and then", again)
		}
		last := len(results) - 1
		if results[last] == api.OK {
			fine[name]++
		} else if slices.ContainsFunc(results[:last], func(v any) bool { return !isEmpty(v) }) {
			t.Fatal(name, results)
		}
		for _, v := range results {
			overwrite(v)
		}
		if third := call(); !reflect.DeepEqual(third, again) {
			t.Fatal(name, "keeps its results")
		}
		if !reflect.DeepEqual(a.memory(), before) {
			t.Fatal(name, "has changed its arguments, or shares their memory")
		}
	}
}

// anyArguments returns valid arguments.
func anyArguments(r *rand.Rand) arguments {
	a := arguments{s: randomSurface(r, 9), l: randomLight(r), yes: randomTilt(r), no: randomTilt(r), n: 1 + r.Intn(256), a: shade(r.Intn(9), 9), b: shade(1, 1+r.Intn(9))}
	a.w, a.first, a.pitch, a.width, a.height = randomCarving(r, 60)
	for range 1 + r.Intn(8) {
		a.lights = append(a.lights, randomLight(r))
	}
	for range 1 + r.Intn(9) {
		is := r.Intn(2) == 0
		a.message, a.shades = append(a.message, is), append(a.shades, map[bool]api.Shade{true: shade(1, 2), false: shade(2, 7)}[is])
	}
	a.shades = append(a.shades, shade(1, 2), shade(2, 7))
	return a
}

// TestRules: P1, R2 and R3 for all calls, with valid arguments.
func TestRules(t *testing.T) {
	r := rand.New(rand.NewSource(115))
	fine := map[string]int{}
	for range 300 {
		anyArguments(r).check(t, fine)
	}
	for name := range calls(arguments{}) {
		if fine[name] < 300 {
			t.Error(name, "had too few calls without an error:", fine[name])
		}
	}
}

// ints are numbers at the limits, just beyond them, and far away.
var ints = []int{leastInt, leastInt + 1, -10001, -10000, -401, -400, -101, -100, -31, -30, -1, 0, 1, 2, 3, 8, 9, 24, 25, 30, 31, 100, 101, 256, 257, 400, 401, 576, 577, 10000, 10001, 1000000000, 1000000001, greatestInt - 1, greatestInt}

// anyInt returns one of these numbers.
func anyInt(r *rand.Rand) int { return ints[r.Intn(len(ints))] }

// changed returns arguments that are valid but for some of their numbers.
func (a arguments) changed(r *rand.Rand) arguments {
	numbers := []*int{
		&a.s.W, &a.s.H, &a.s.Pitch, &a.s.Heights[r.Intn(len(a.s.Heights))], &a.l.X, &a.l.Y, &a.l.Z, &a.yes.X, &a.yes.Y, &a.no.X, &a.no.Y, &a.n, &a.pitch, &a.width, &a.height,
		&a.a.Num, &a.a.Den, &a.b.Num, &a.b.Den, &a.first.X, &a.first.Y, &a.shades[0].Num, &a.shades[0].Den, &a.lights[0].X, &a.lights[len(a.lights)-1].Z,
		&a.w.Tool.Tip, &a.w.Tool.Num, &a.w.Tool.Den, &a.w.Tool.Bite, &a.w.Tool.Slack, &a.w.Wall,
	}
	for i, c := range a.w.Cuts {
		numbers = append(numbers, &a.w.Cuts[i].Press, &c.Spots[0].X)
	}
	for range r.Intn(5) {
		*numbers[r.Intn(len(numbers))] = anyInt(r)
	}
	switch r.Intn(5) {
	case 0:
		a.s.Heights, a.message = all(max(0, min(1000, anyInt(r))), 3), make([]bool, max(0, min(1000, anyInt(r))))
	case 1:
		a.lights, a.shades = all(r.Intn(12), a.l), all(r.Intn(12), a.a)
	case 2:
		a.w.Cuts = slices.Repeat(a.w.Cuts, r.Intn(6))
	}
	return a
}

// TestAnyArguments: P1, R5 to R7: whatever the arguments are, each call ends without a panic, and with zero values beside an error.
func TestAnyArguments(t *testing.T) {
	r := rand.New(rand.NewSource(116))
	fine := map[string]int{}
	for range 3000 {
		anyArguments(r).changed(r).check(t, fine)
	}
	for name := range calls(arguments{}) {
		if fine[name] < 500 || name != "Compare" && fine[name] == 3000 {
			t.Error(name, "had too few calls with an error, or without one:", fine[name])
		}
	}
}

// TestGreatest: P1, R5 and R7: with all numbers at their limits nothing overflows, and each call ends soon.
func TestGreatest(t *testing.T) {
	s := flat(24, 24, 100, -100)
	for i := range s.Heights {
		if (i/24+i%24)%5 == 0 {
			s.Heights[i] = 100
		}
	}
	for _, l := range []api.Light{direction(30, 30, 30), direction(-30, 30, 1), direction(30, 0, 30), direction(1, 1, 1), direction(0, -1, 30), direction(30, 29, 1)} {
		shadows, e := light.Shadows(s, l)
		is(t, l, shadows, e, shadowsOf(s, l)...)
		picture, e := light.Picture(s, l)
		is(t, l, picture, e, pictureOf(s, l)...)
		for _, c := range picture {
			if c.Num < 0 || c.Num > c.Den || c.Den > 1000000000 {
				t.Fatal(c)
			}
		}
		flash, e := light.Flash(s, all(8, l))
		is(t, l, flash, e, all(23*23, 0)...)
	}
	w := workOf(api.Tool{Tip: 100, Num: 100, Den: 100, Bite: 10})
	for range 16 {
		c := cut(1000)
		for i := range 12 {
			c.Spots = append(c.Spots, at(10000-20000*(i%2), 10000-20000*(i/2%2)))
		}
		w.Cuts = append(w.Cuts, c)
	}
	carveIs(t, w, at(-10000, -10000), 100, 24, 24, carvedOf(workOf(w.Tool, w.Cuts[0]), at(-10000, -10000), 100, 24, 24).Heights...)
}

// TestEmptyLists: R4, an empty list is as nil.
func TestEmptyLists(t *testing.T) {
	for _, heights := range [][]int{nil, {}} {
		if e := light.Check(api.Surface{W: 2, H: 2, Pitch: 1, Heights: heights}); e != api.ErrSurface {
			t.Error(e)
		}
	}
	for _, cuts := range [][]api.Cut{nil, {}} {
		carveIs(t, workOf(deepTool(1, 1, 1), cuts...), at(0, 0), 1, 2, 2, 0, 0, 0, 0)
	}
	for _, lights := range [][]api.Light{nil, {}} {
		_, flash := light.Flash(example(), lights)
		_, shows := light.Shows(api.Tilt{}, api.Tilt{X: 401}, 0, lights)
		if flash != api.ErrMany || shows != api.ErrMany {
			t.Error(flash, shows)
		}
	}
	for _, shades := range [][]api.Shade{nil, {}} {
		l, e := light.Read(shades)
		fails(t, shades, l, e, api.ErrNone)
	}
}
