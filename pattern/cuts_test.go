package pattern

import (
	"math/rand"
	"testing"

	"barleycorn/api"
)

// TestCutExamples: P4.2, the chapter's example, and cuts below 0, whose radii may be below 0 too.
func TestCutExamples(t *testing.T) {
	for j, want := range map[int][]int{
		0: {100, 106, 100, 100, 106, 100}, 1: {110, 110, 116, 110, 110, 116}, 2: {126, 120, 120, 126, 120, 120}, 3: {130, 136, 130, 130, 136, 130},
		-1: {96, 90, 90, 96, 90, 90}, -12: {-20, -14, -20, -20, -14, -20},
	} {
		l, e := Cut(flames(1), j)
		is(t, j, l, e, want...)
	}
	p := flames(1)
	p.Rubber = []int{0, 0, 1} // the lift is 2 3 3 2 3 3
	l, e := Cut(p, 1)
	is(t, "with a rubber", l, e, 116, 114, 116, 116, 114, 116)
	most := api.Program{Rosette: all(3, api.MaxRise), Rubber: []int{0}, Start: api.MaxSpot, Throw: api.MaxThrow, Advance: api.MaxAdvance, Shifts: []int{2}}
	l, e = Cut(most, api.MaxAt)
	is(t, "the greatest", l, e, 5170000, 5170000, 5170000)
}

// TestPhasesExamples: P4.2, phases of cuts from 0 on, and below 0, of one shift and of several.
func TestPhasesExamples(t *testing.T) {
	for _, x := range []struct {
		shifts  []int
		from, n int
		want    []int
	}{
		{[]int{1}, 0, 8, []int{0, 1, 2, 3, 4, 5, 0, 1}}, {[]int{5}, 0, 4, []int{0, 5, 4, 3}}, {[]int{5}, -2, 4, []int{2, 1, 0, 5}}, {[]int{0}, -3, 6, all(6, 0)},
		{[]int{1, 0, 4}, -4, 9, []int{3, 1, 2, 2, 0, 1, 1, 5, 0}}, {[]int{1, 0, 4}, 7, 3, []int{5, 5, 3}}, {[]int{1, 0, 4}, 2, 1, []int{1}}, {[]int{1, 0, 4}, 2, 0, nil},
		{[]int{0, 3}, -3, 7, []int{0, 3, 3, 0, 0, 3, 3}},
	} {
		l, e := Phases(flames(x.shifts...), x.from, x.n)
		is(t, x, l, e, x.want...)
	}
}

// TestLimitsOfCuts: P4.2, from and n of Phases, and j of Cut, at both limits and just beyond them.
func TestLimitsOfCuts(t *testing.T) {
	for _, x := range []struct {
		from, n int
		want    api.Errno
	}{
		{-api.MaxAt, 0, api.OK}, {-api.MaxAt, api.MaxTable, api.OK}, {api.MaxAt, 0, api.OK}, {api.MaxAt, api.MaxTable, api.OK}, {0, 1, api.OK},
		{-api.MaxAt - 1, 0, api.ErrArg}, {api.MaxAt + 1, 0, api.ErrArg}, {leastInt, 1, api.ErrArg}, {greatestInt, 1, api.ErrArg},
		{0, -1, api.ErrArg}, {0, api.MaxTable + 1, api.ErrArg}, {0, leastInt, api.ErrArg}, {0, greatestInt, api.ErrArg}, {greatestInt, greatestInt, api.ErrArg},
	} {
		p := flames(1, 5, 0, 2)
		l, e := Phases(p, x.from, x.n)
		if e != x.want || e == api.OK && len(l) != x.n {
			t.Error(x, l, e)
		}
		for i, phase := range l {
			if phase != phaseOf(p, x.from+i) {
				t.Error(x, i, phase)
			}
		}
	}
	for j, want := range map[int]api.Errno{-api.MaxAt: api.OK, api.MaxAt: api.OK, -api.MaxAt - 1: api.ErrArg, api.MaxAt + 1: api.ErrArg, leastInt: api.ErrArg, greatestInt: api.ErrArg} {
		if l, e := Cut(flames(1), j); e != want || (e == api.OK) != (len(l) == 6) {
			t.Error(j, l, e)
		}
	}
}

// TestRandomCuts: P4.2, for random programs: phases are shifts, one after the other, and radii are those of the shapes.
func TestRandomCuts(t *testing.T) {
	r := rand.New(rand.NewSource(42))
	for range 150 {
		p := randomProgram(r, api.MaxSteps, api.MaxShifts)
		from, n := r.Intn(2*api.MaxAt+1)-api.MaxAt, r.Intn(api.MaxTable+1)
		if r.Intn(2) == 0 {
			from = r.Intn(40) - 20
		}
		var want []int
		for i := range n {
			want = append(want, phaseOf(p, from+i))
		}
		l, e := Phases(p, from, n)
		is(t, p, l, e, want...)
		radii := shapeOf(p, liftOf(p), phaseOf(p, from))
		for step := range radii {
			radii[step] += p.Start + from*p.Advance
		}
		l, e = Cut(p, from)
		is(t, p, l, e, radii...)
	}
}
