package pattern

import (
	"math/rand"
	"slices"
	"strconv"
	"testing"

	"barleycorn/api"
)

// The least and the greatest int.
const (
	leastInt    = -1 << 63
	greatestInt = 1<<63 - 1
)

// must returns a result that has to come without an error.
func must[T any](t *testing.T, result T, e api.Errno) T {
	t.Helper()
	if e != api.OK {
		t.Fatalf("error %d", e)
	}
	return result
}

// is reports an error unless a call has given a list.
func is(t *testing.T, what any, l []int, e api.Errno, want ...int) {
	t.Helper()
	if e != api.OK || !slices.Equal(l, want) {
		t.Error(what, l, e, "want", want)
	}
}

// all returns a list of n times the same number.
func all(n, h int) []int { return slices.Repeat([]int{h}, n) }

// with returns a copy of a list with another number at an index.
func with(l []int, i, h int) []int {
	l = slices.Clone(l)
	l[i] = h
	return l
}

// flames returns the chapter's first program, with any shifts: its period is 3.
func flames(shifts ...int) api.Program {
	return api.Program{Rosette: []int{0, 3, 0, 0, 3, 0}, Rubber: []int{0}, Start: 100, Throw: 2, Advance: 10, Shifts: shifts}
}

// barley returns the chapter's other program, with any shifts: its period is 4.
func barley(shifts ...int) api.Program {
	return api.Program{Rosette: []int{0, 1, 2, 1}, Rubber: []int{0}, Throw: 1, Shifts: shifts}
}

// plain returns a program with a rosette and shifts, and a rubber that is one step broad.
func plain(f []int, shifts ...int) api.Program {
	return api.Program{Rosette: f, Rubber: []int{0}, Start: 5000, Throw: 1, Advance: 3, Shifts: shifts}
}

// peak returns a rosette of n steps with one that is higher.
func peak(n int) []int { return with(all(n, 2), 0, 5) }

// bad are programs that are not valid, each with its error.
func bad() map[api.Errno]api.Program {
	noRosette, noRubber, noShifts := flames(1), flames(1), flames()
	noRosette.Rosette = []int{0, 3}
	noRubber.Rubber = []int{0, 0}
	return map[api.Errno]api.Program{api.ErrRosette: noRosette, api.ErrRubber: noRubber, api.ErrProgram: noShifts}
}

// mod returns n modulo m, for any n.
func mod(n, m int) int {
	for n < 0 {
		n += m
	}
	return n % m
}

// liftOf returns the lift of a program, word by word as layer 3 has it.
func liftOf(p api.Program) []int {
	w, n := len(p.Rubber)/2, len(p.Rosette)
	var lift []int
	for step := range p.Rosette {
		var heights []int
		for j := -w; j <= w; j++ {
			heights = append(heights, p.Rosette[mod(step+j, n)]-p.Rubber[w+j])
		}
		lift = append(lift, slices.Max(heights))
	}
	return lift
}

// periodOf returns the period of a list.
func periodOf(l []int) int {
	s := 1
	for !slices.Equal(append(slices.Clone(l[s:]), l[:s]...), l) {
		s++
	}
	return s
}

// phaseOf returns the phase of a cut: from the cut 0 on, up or down, shift by shift.
func phaseOf(p api.Program, j int) int {
	phase, n := 0, len(p.Rosette)
	for i := range max(j, 0) {
		phase = (phase + p.Shifts[i%len(p.Shifts)]) % n
	}
	for i := -1; i >= j; i-- {
		phase = mod(phase-p.Shifts[mod(i, len(p.Shifts))], n)
	}
	return phase
}

// A numbering gives each shape a number, the same one for all programs.
type numbering map[string]int

// number returns the number of a shape.
func (n numbering) number(shape []int) int {
	text := ""
	for _, h := range shape {
		text += strconv.Itoa(h) + " "
	}
	if _, known := n[text]; !known {
		n[text] = len(n)
	}
	return n[text]
}

// shapeOf returns the shape of a program with a phase: at a step and the phase it is as high as the lift is there, Throw times.
func shapeOf(p api.Program, lift []int, phase int) []int {
	shape := make([]int, len(lift))
	for step, h := range lift {
		shape[mod(step+phase, len(lift))] = p.Throw * h
	}
	return shape
}

// shapesOf returns the numbers of the shapes of the first cuts of a program, as many as there are shifts times steps: by then all phases come again.
func shapesOf(p api.Program, n numbering) []int {
	lift := liftOf(p)
	var byPhase, cuts []int
	for phase := range lift {
		byPhase = append(byPhase, n.number(shapeOf(p, lift, phase)))
	}
	phase := 0
	for j := range len(p.Shifts) * len(lift) {
		cuts = append(cuts, byPhase[phase])
		phase = mod(phase+p.Shifts[j%len(p.Shifts)], len(lift))
	}
	return cuts
}

// closesOf returns after how many cuts a pattern closes, by trying.
func closesOf(p api.Program) int {
	cuts := shapesOf(p, numbering{})
	n := 1
	for !slices.Equal(append(slices.Clone(cuts[n%len(cuts):]), cuts[:n%len(cuts)]...), cuts) {
		n++
	}
	return n
}

// motifOf returns the motif, by trying all numbers and turns.
func motifOf(p api.Program) (cuts, turn int) {
	lift := liftOf(p)
	for cuts = 1; ; cuts++ {
	turns:
		for turn = range periodOf(lift) {
			for j := range len(p.Shifts) {
				turned := shapeOf(p, shapeOf(api.Program{Throw: 1}, lift, phaseOf(p, j)), turn)
				if !slices.Equal(turned, shapeOf(p, lift, phaseOf(p, j+cuts))) {
					continue turns
				}
			}
			return cuts, turn
		}
	}
}

// randomList returns n numbers from 0 to most, often the same ones.
func randomList(r *rand.Rand, n, most int) []int {
	l := make([]int, n)
	for i := range l {
		l[i] = r.Intn(most + 1)
		if r.Intn(2) == 0 {
			l[i] = l[r.Intn(i+1)]
		}
	}
	return l
}

// randomRosette returns a rosette with at most so many steps, often one with a small period, or with axes.
func randomRosette(r *rand.Rand, steps, most int) []int {
	part := randomList(r, 1+r.Intn(steps), most)
	if r.Intn(3) == 0 {
		mirrored := slices.Clone(part[r.Intn(2):])
		slices.Reverse(mirrored)
		part = append(part, mirrored...)
	}
	for len(part) < api.MinSteps {
		part = append(part, part...)
	}
	if most := steps / len(part); most > 1 {
		part = slices.Repeat(part, 1+r.Intn(most))
	}
	return part[:min(len(part), max(steps, api.MinSteps))]
}

// randomRubber returns a rubber for n steps.
func randomRubber(r *rand.Rand, n int) []int {
	w := r.Intn(min((n-1)/2, 2) + 1)
	return with(randomList(r, 2*w+1, 2), w, 0)
}

// randomShifts returns shifts for n steps: any ones, a few that come again, or such that leave the shape as it is, or turn it by a half.
func randomShifts(r *rand.Rand, n, most int) []int {
	k := 1 + r.Intn(most)
	shifts := randomList(r, k, n-1)
	switch r.Intn(4) {
	case 0:
		shifts = slices.Repeat(shifts[:1+r.Intn(k)], most)[:k]
	case 1:
		shifts = with(all(k, 0), r.Intn(k), shifts[0])
	case 2:
		for i := range shifts {
			shifts[i] = n / 2 * r.Intn(2)
		}
	}
	return shifts
}

// randomProgram returns a valid program with at most so many steps and shifts.
func randomProgram(r *rand.Rand, steps, shifts int) api.Program {
	f := randomRosette(r, steps, []int{1, 3, 20, api.MaxRise}[r.Intn(4)])
	return api.Program{
		Rosette: f, Rubber: randomRubber(r, len(f)), Shifts: randomShifts(r, len(f), shifts),
		Start: r.Intn(api.MaxSpot + 1), Throw: 1 + r.Intn(api.MaxThrow), Advance: r.Intn(2*api.MaxAdvance+1) - api.MaxAdvance,
	}
}
