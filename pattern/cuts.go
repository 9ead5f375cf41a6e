package pattern

import "barleycorn/api"

// Phases returns the phases of n cuts (P4.2).
func Phases(p api.Program, from, n int) ([]int, api.Errno) {
	f, e := familyOf(p)
	if e != api.OK {
		return nil, e
	}
	if !isWithin(from, -api.MaxAt, api.MaxAt) || !isWithin(n, 0, api.MaxTable) {
		return nil, api.ErrArg
	}
	phases := make([]int, n)
	for i := range phases {
		phases[i] = f.phase(from + i)
	}
	return phases, api.OK
}

// Cut returns the radius of a cut at each step (P4.2).
func Cut(p api.Program, j int) ([]int, api.Errno) {
	f, e := familyOf(p)
	if e != api.OK {
		return nil, e
	}
	if !isWithin(j, -api.MaxAt, api.MaxAt) {
		return nil, api.ErrArg
	}
	radii := f.shape(f.phase(j))
	for step := range radii {
		radii[step] += p.Start + j*p.Advance
	}
	return radii, api.OK
}

// Closes returns after how many cuts a pattern closes (P4.3).
func Closes(p api.Program) (int, api.Errno) {
	f, e := familyOf(p)
	if e != api.OK {
		return 0, e
	}
	return f.closes(), api.OK
}

// Motif returns the motif of a program (P4.3).
func Motif(p api.Program) (cuts, turn int, e api.Errno) {
	f, e := familyOf(p)
	if e != api.OK {
		return 0, 0, e
	}
	cuts, turn = f.motif()
	return cuts, turn, api.OK
}

// Kind returns the kind of a program (P4.3).
func Kind(p api.Program) (uint8, api.Errno) {
	f, e := familyOf(p)
	if e != api.OK {
		return 0, e
	}
	cuts, turn := f.motif()
	isHalf := 2*turn == f.period
	switch {
	case f.period == 1:
		return api.PatternRings, api.OK
	case cuts == 1 && turn == 0:
		return api.PatternRays, api.OK
	case cuts == 1 && isHalf:
		return api.PatternBarley, api.OK
	case cuts == 1:
		return api.PatternFlames, api.OK
	case isHalf && f.changes() == 1:
		return api.PatternBasket, api.OK
	}
	return api.PatternAnother, api.OK
}

// Gap returns the gap of a program (P4.3).
func Gap(p api.Program) (int, api.Errno) {
	f, e := familyOf(p)
	if e != api.OK {
		return 0, e
	}
	// If a cut and the next one are both turned by as much, their differences are the same, only at other steps: so each shift is tried once, from the phase 0. They are never above 0 at all steps, as both cuts have the same heights.
	least, this := 0, f.shape(0)
	for _, shift := range p.Shifts {
		next := f.shape(shift)
		for step := range f.steps() {
			least = min(least, next[step]-this[step])
		}
	}
	return p.Advance + least, api.OK
}
