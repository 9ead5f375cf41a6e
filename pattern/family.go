package pattern

import (
	"iter"

	"barleycorn/api"
	"barleycorn/rosette"
)

// A family is the cuts of a valid program, without the radius at which they lie.
type family struct {
	lift   []int
	period int
	throw  int
	shifts int                    // how many there are
	sums   [api.MaxShifts + 1]int // of the first shifts, as many as the index says
}

// familyOf returns the family of a program, or Check's error.
func familyOf(p api.Program) (*family, api.Errno) {
	lift, e := Lift(p)
	if e != api.OK {
		return nil, e
	}
	f := &family{lift: lift, period: sure(rosette.Period(lift)), throw: p.Throw, shifts: len(p.Shifts)}
	for i, shift := range p.Shifts {
		f.sums[i+1] = f.sums[i] + shift
	}
	return f, api.OK
}

// steps returns the number of steps around.
func (f *family) steps() int { return len(f.lift) }

// phase returns the phase of any cut.
func (f *family) phase(j int) int {
	i := modulo(j, f.shifts)
	rounds := (j - i) / f.shifts
	return modulo(rounds*f.sums[f.shifts]+f.sums[i], f.steps())
}

// turn returns by how much the shape of the cut j has to be turned to be that of the cut k, less than the period.
func (f *family) turn(j, k int) int { return modulo(f.phase(k)-f.phase(j), f.period) }

// shape returns the shape of the cuts with a phase.
func (f *family) shape(phase int) []int {
	heights := sure(rosette.Turned(f.lift, phase))
	for p := range heights {
		heights[p] *= f.throw
	}
	return heights
}

// shapes yields the rows of the table of shapes: all the different ones that cuts may have, with the least phase of each.
func (f *family) shapes() iter.Seq2[int, []int] {
	return func(yield func(phase int, shape []int) bool) {
		for phase := range f.period {
			if !yield(phase, f.shape(phase)) {
				return
			}
		}
	}
}

// mirrored returns a family with the mirrored shapes, at the same phases.
func (f *family) mirrored() *family {
	other := *f
	other.lift = sure(rosette.Mirrored(f.lift))
	return &other
}

// motif returns the motif.
func (f *family) motif() (cuts, turn int) {
search:
	for cuts = 1; cuts < f.shifts; cuts++ {
		turn = f.turn(0, cuts)
		for j := range f.shifts {
			if f.turn(j, j+cuts) != turn {
				continue search
			}
		}
		return cuts, turn
	}
	return f.shifts, f.turn(0, f.shifts)
}

// closes returns after how many cuts the pattern closes: it does so where the turns of the motif make the period.
func (f *family) closes() int {
	cuts, turn := f.motif()
	return cuts * f.period / divisor(f.period, turn)
}

// phases returns the table of phases, modulo the period, until the pattern closes. Each of its rows is a motif, and has the turn of the motif more than the one before.
func (f *family) phases() []int {
	cuts, turn := f.motif()
	table := make([]int, f.closes())
	for first := 0; first < len(table); first += cuts {
		row := table[first : first+cuts]
		copy(row, f.sums[:])
		for i := range row {
			row[i] = modulo(row[i]+first/cuts*turn, f.period)
		}
	}
	return table
}

// changes returns how many of the shifts of a motif change the shape.
func (f *family) changes() int {
	cuts, _ := f.motif()
	n := 0
	for j := range cuts {
		if f.turn(j, j+1) != 0 {
			n++
		}
	}
	return n
}
