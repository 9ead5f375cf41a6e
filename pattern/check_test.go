package pattern

import (
	"math/rand"
	"testing"

	"barleycorn/api"
)

// TestCheckNumbers: P4.1, Start, Throw and Advance at their limits, and just beyond them.
func TestCheckNumbers(t *testing.T) {
	for _, x := range []struct {
		start, throw, advance int
		want                  api.Errno
	}{
		{0, 1, 0, api.OK}, {api.MaxSpot, api.MaxThrow, api.MaxAdvance, api.OK}, {1, 2, -api.MaxAdvance, api.OK},
		{-1, 1, 0, api.ErrProgram}, {api.MaxSpot + 1, 1, 0, api.ErrProgram}, {leastInt, 1, 0, api.ErrProgram}, {greatestInt, 1, 0, api.ErrProgram},
		{0, 0, 0, api.ErrProgram}, {0, -1, 0, api.ErrProgram}, {0, api.MaxThrow + 1, 0, api.ErrProgram}, {0, leastInt, 0, api.ErrProgram}, {0, greatestInt, 0, api.ErrProgram},
		{0, 1, -api.MaxAdvance - 1, api.ErrProgram}, {0, 1, api.MaxAdvance + 1, api.ErrProgram}, {0, 1, leastInt, api.ErrProgram}, {0, 1, greatestInt, api.ErrProgram},
	} {
		p := flames(1)
		p.Start, p.Throw, p.Advance = x.start, x.throw, x.advance
		if e := Check(p); e != x.want {
			t.Error(x, e)
		}
	}
}

// TestCheckShifts: P4.1, how many shifts there are, and in which range they are.
func TestCheckShifts(t *testing.T) {
	for _, x := range []struct {
		shifts []int
		want   api.Errno
	}{
		{nil, api.ErrProgram}, {[]int{}, api.ErrProgram}, {[]int{0}, api.OK}, {[]int{1}, api.OK}, {[]int{5}, api.OK},
		{[]int{6}, api.ErrProgram}, {[]int{-1}, api.ErrProgram}, {[]int{leastInt}, api.ErrProgram}, {[]int{greatestInt}, api.ErrProgram},
		{[]int{0, 5, 3}, api.OK}, {[]int{0, 5, 6}, api.ErrProgram}, {[]int{0, -1, 5}, api.ErrProgram}, {[]int{6, 1, 1}, api.ErrProgram},
		{all(api.MaxShifts, 5), api.OK}, {all(api.MaxShifts+1, 5), api.ErrProgram}, {with(all(api.MaxShifts, 5), 11, 6), api.ErrProgram}, {all(1000, 0), api.ErrProgram},
	} {
		if e := Check(flames(x.shifts...)); e != x.want {
			t.Error(x, e)
		}
	}
	for _, n := range []int{api.MinSteps, 7, api.MaxSteps} {
		for shift, want := range map[int]api.Errno{-1: api.ErrProgram, 0: api.OK, n - 1: api.OK, n: api.ErrProgram} {
			if e := Check(plain(peak(n), 0, shift)); e != want {
				t.Error(n, shift, e)
			}
		}
	}
}

// TestCheckRosettes: P4.1, the errors of the rosette and of the rubber, in this order, before all others.
func TestCheckRosettes(t *testing.T) {
	for _, x := range []struct {
		f, b, shifts []int
		throw        int
		want         api.Errno
	}{
		{peak(3), []int{0}, []int{1}, 1, api.OK}, {peak(96), all(31, 0), []int{1}, 1, api.OK}, {all(3, api.MaxRise), []int{9, 0, api.MaxRise}, []int{1}, 16, api.OK},
		{peak(2), []int{0}, []int{1}, 1, api.ErrRosette}, {peak(97), []int{0}, []int{1}, 1, api.ErrRosette}, {nil, []int{0}, []int{1}, 1, api.ErrRosette},
		{all(3, api.MaxRise+1), []int{0}, []int{1}, 1, api.ErrRosette}, {all(3, -1), []int{0}, []int{1}, 1, api.ErrRosette},
		{peak(3), nil, []int{1}, 1, api.ErrRubber}, {peak(3), []int{0, 0}, []int{1}, 1, api.ErrRubber}, {peak(3), []int{1}, []int{1}, 1, api.ErrRubber},
		{peak(3), all(5, 0), []int{1}, 1, api.ErrRubber}, {peak(96), all(33, 0), []int{1}, 1, api.ErrRubber}, {peak(4), []int{0, 0, api.MaxRise + 1}, []int{1}, 1, api.ErrRubber},
		{nil, nil, nil, 0, api.ErrRosette}, {peak(2), []int{1}, nil, 0, api.ErrRosette}, {peak(97), []int{0}, []int{97}, 1, api.ErrRosette},
		{peak(3), nil, nil, 0, api.ErrRubber}, {peak(3), []int{0, 1, 0}, []int{3}, 17, api.ErrRubber}, {peak(3), []int{0}, []int{3}, 17, api.ErrProgram},
	} {
		p := api.Program{Rosette: x.f, Rubber: x.b, Throw: x.throw, Shifts: x.shifts}
		if e := Check(p); e != x.want {
			t.Error(x, e)
		}
	}
}

// TestErrorsOfPrograms: P4.1, each function with programs returns Check's error first, that of p before that of q, before all others.
func TestErrorsOfPrograms(t *testing.T) {
	for want, p := range bad() {
		for name, call := range calls(arguments{p: p, q: flames(1), from: api.MaxAt + 1, n: -1, j: -api.MaxAt - 1, how: 4}) {
			if results := call(); ofPrograms[name] && results[len(results)-1] != want {
				t.Error(name, want, results)
			}
		}
		for other, q := range bad() {
			if _, e := Same(p, q, 4); e != want {
				t.Error(want, other, e)
			}
			if _, _, e := Moire(p, q); e != want {
				t.Error(want, other, e)
			}
		}
		if _, e := Same(flames(1), p, 4); e != want {
			t.Error(want, e)
		}
		if _, _, e := Moire(barley(1), p); e != want {
			t.Error(want, e)
		}
	}
}

// TestLift: P4.1, the lift of a program is that of its rosette by its rubber.
func TestLift(t *testing.T) {
	p := flames(1)
	l, e := Lift(p)
	is(t, "lift", l, e, 0, 3, 0, 0, 3, 0)
	p.Rubber = []int{0, 0, 1}
	l, e = Lift(p)
	is(t, "lift", l, e, 2, 3, 3, 2, 3, 3)
	r := rand.New(rand.NewSource(41))
	for range 200 {
		p := randomProgram(r, api.MaxSteps, api.MaxShifts)
		l, e := Lift(p)
		is(t, p, l, e, liftOf(p)...)
	}
}
