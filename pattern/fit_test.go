package pattern

import (
	"math/rand"
	"slices"
	"testing"

	"barleycorn/api"
)

// zigzag returns n phases that go to 1 and back, and stay at last where they are: no shorter list than all their shifts makes them.
func zigzag(n int) []int {
	var l []int
	for i := range n - 1 {
		l = append(l, i%2)
	}
	return append(l, l[n-2])
}

// TestFitExamples: P4.6, the chapter's examples, lists that are as short as possible, and with more than MaxShifts shifts.
func TestFitExamples(t *testing.T) {
	for _, x := range []struct {
		l     []int
		steps int
		want  []int
	}{
		{[]int{0, 0, 2, 2, 0, 0, 2}, 4, []int{0, 2}}, {[]int{0, 1, 2, 3}, 6, []int{1}}, {[]int{5, 0, 2, 3, 5, 1}, 6, []int{1, 2, 1, 2, 2}},
		{[]int{0, 0}, 3, []int{0}}, {[]int{2, 0}, 3, []int{1}}, {[]int{0, 95}, 96, []int{95}}, {[]int{3, 2, 1, 0, 3, 2}, 4, []int{3}},
		{[]int{0, 1, 1, 2, 2}, 5, []int{1, 0}}, {[]int{0, 1, 1, 2, 2, 2}, 5, []int{1, 0, 1, 0, 0}}, {[]int{0, 1, 2, 2, 3}, 5, []int{1, 1, 0}},
		{zigzag(13), 3, []int{1, 2, 1, 2, 1, 2, 1, 2, 1, 2, 1, 0}}, {zigzag(13)[:12], 3, []int{1, 2}}, {all(200, 7), 8, []int{0}},
	} {
		l, e := Fit(x.l, x.steps)
		is(t, x, l, e, x.want...)
	}
}

// TestFitErrors: P4.6, too many phases, steps and phases that are out of range, and too many shifts, in this order.
func TestFitErrors(t *testing.T) {
	for _, x := range []struct {
		l     []int
		steps int
		want  api.Errno
	}{
		{all(api.MaxTable, 0), 3, api.OK}, {all(api.MaxTable+1, 0), 3, api.ErrMany}, {all(api.MaxTable+1, 0), 2, api.ErrMany}, {all(api.MaxTable+1, -1), 3, api.ErrMany},
		{nil, 3, api.ErrArg}, {[]int{}, 3, api.ErrArg}, {[]int{0}, 3, api.ErrArg}, {[]int{0, 0}, 3, api.OK}, {[]int{0, 0}, 96, api.OK},
		{[]int{0, 0}, api.MinSteps - 1, api.ErrArg}, {[]int{0, 0}, api.MaxSteps + 1, api.ErrArg}, {[]int{0, 0}, 0, api.ErrArg}, {[]int{0, 0}, -3, api.ErrArg}, {[]int{0, 0}, leastInt, api.ErrArg}, {[]int{0, 0}, greatestInt, api.ErrArg},
		{[]int{0, 3}, 3, api.ErrArg}, {[]int{3, 0}, 3, api.ErrArg}, {[]int{0, -1, 0}, 3, api.ErrArg}, {[]int{0, 95}, 96, api.OK}, {[]int{0, 96}, 96, api.ErrArg}, {[]int{leastInt, greatestInt}, 3, api.ErrArg},
		{zigzag(13), 3, api.OK}, {zigzag(14), 3, api.ErrMany}, {zigzag(200), 96, api.ErrMany}, {zigzag(201), 96, api.ErrMany}, {zigzag(14), 2, api.ErrArg}, {append(zigzag(14), 3), 3, api.ErrArg}, {append(zigzag(14), 3), 4, api.ErrMany},
	} {
		if l, e := Fit(x.l, x.steps); e != x.want || (e == api.OK) != (len(l) > 0) {
			t.Error(x, l, e)
		}
	}
}

// makes reports whether shifts, again and again, make phases.
func makes(shifts, phases []int, steps int) bool {
	for i := range len(phases) - 1 {
		if (phases[i]+shifts[i%len(shifts)])%steps != phases[i+1] {
			return false
		}
	}
	return true
}

// lists yields all lists of n numbers from 0 to most. They use the same memory.
func lists(n, most int) func(yield func([]int) bool) {
	return func(yield func([]int) bool) {
		l := make([]int, n)
		for {
			if !yield(l) {
				return
			}
			i := 0
			for i < n && l[i] == most {
				l[i] = 0
				i++
			}
			if i == n {
				return
			}
			l[i]++
		}
	}
}

// fitted returns the shortest list that makes phases, by trying all lists.
func fitted(phases []int, steps int) []int {
	for n := 1; ; n++ {
		for l := range lists(n, steps-1) {
			if makes(l, phases, steps) {
				return l
			}
		}
	}
}

// TestFitAll: P4.6, against trying all lists, for all short lists of phases.
func TestFitAll(t *testing.T) {
	for n := 2; n <= 6; n++ {
		for phases := range lists(n, 2) {
			l, e := Fit(phases, 3)
			is(t, phases, l, e, fitted(phases, 3)...)
		}
	}
}

// TestFitPhases: P4.11, phases that were fitted are those of the shifts; and the phases of a program are fitted by its shifts, or by fewer.
func TestFitPhases(t *testing.T) {
	r := rand.New(rand.NewSource(51))
	shorter := 0
	for range 600 {
		p := randomProgram(r, api.MaxSteps, api.MaxShifts)
		n := 2 + r.Intn(api.MaxTable-1)
		phases, e := Phases(p, 0, n)
		phases = must(t, phases, e)
		shifts, e := Fit(phases, len(p.Rosette))
		shifts = must(t, shifts, e)
		if len(shifts) > len(p.Shifts) {
			t.Fatal(p, n, shifts)
		}
		if len(shifts) < len(p.Shifts) {
			shorter++
		}
		q := p
		q.Shifts = shifts
		again, e := Phases(q, 0, n)
		is(t, p, again, e, phases...)
		if !slices.Equal(shifts, p.Shifts[:len(shifts)]) {
			t.Fatal(p, shifts)
		}
	}
	if shorter < 50 {
		t.Error("only", shorter)
	}
}
