package rosette

import (
	"slices"

	"barleycorn/api"
)

// Contacts returns the steps that the rubber touches (P3.4).
func Contacts(f, b []int, p int) ([]int, api.Errno) {
	if e := checkWith(f, b); e != api.OK {
		return nil, e
	}
	if p < 0 || p >= len(f) {
		return nil, api.ErrArg
	}
	steps := touched(f, b)[p]
	slices.Sort(steps)
	return steps, api.OK
}

// Needed returns the steps at which a lesser height changes the lift (P3.4).
func Needed(f, b []int) ([]int, api.Errno) {
	if e := checkWith(f, b); e != api.OK {
		return nil, e
	}
	var needed []int
	for _, steps := range touched(f, b) {
		// Where several steps are touched, each of them may become lower unnoticed.
		if len(steps) == 1 && f[steps[0]] > 0 {
			needed = append(needed, steps[0])
		}
	}
	slices.Sort(needed)
	return slices.Compact(needed), api.OK
}

// touched returns, for each step where the middle of the rubber is, the steps that it touches, in the order of its offsets.
func touched(f, b []int) [][]int {
	heights := lifted(f, b)
	return around(make([][]int, len(f)), b, func(steps []int, p, j, drop int) []int {
		q := wrapped(p+j, len(f))
		if f[q]-drop == heights[p] {
			return append(steps, q)
		}
		return steps
	})
}
