package pattern

import "barleycorn/api"

// Moire returns after how many cuts two programs close together, and their beat (P4.5).
func Moire(p, q api.Program) (together, beat int, e api.Errno) {
	f, e := familyOf(p)
	if e != api.OK {
		return 0, 0, e
	}
	g, e := familyOf(q)
	if e != api.OK {
		return 0, 0, e
	}
	if f.steps() != g.steps() {
		return 0, 0, api.ErrArg
	}
	return multiple(f.closes(), g.closes()), beats(f, g), api.OK
}

// multiple returns the least common multiple of two numbers above 0.
func multiple(a, b int) int { return a / divisor(a, b) * b }

// beats returns the beat of two families with the same number of steps.
func beats(f, g *family) int {
	common := divisor(f.period, g.period)
	// In each round of the shifts of both the difference grows by the same number, so after as many rounds as it is taken modulo it comes again.
	cuts := multiple(f.shifts, g.shifts) * common
	var seen [api.MaxSteps]bool
	n := 0
	for j := range cuts {
		difference := modulo(f.phase(j)-g.phase(j), common)
		if !seen[difference] {
			seen[difference] = true
			n++
		}
	}
	return n
}
