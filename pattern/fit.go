package pattern

import (
	"slices"

	"barleycorn/api"
)

// Fit returns the shortest list of shifts of some phases (P4.6).
func Fit(phases []int, steps int) ([]int, api.Errno) {
	if len(phases) > api.MaxTable {
		return nil, api.ErrMany
	}
	if !isWithin(steps, api.MinSteps, api.MaxSteps) || len(phases) < 2 || !areWithin(phases, 0, steps-1) {
		return nil, api.ErrArg
	}
	shifts := make([]int, len(phases)-1)
	for i := range shifts {
		shifts[i] = modulo(phases[i+1]-phases[i], steps)
	}
	n := 1
	for !slices.Equal(shifts[n:], shifts[:len(shifts)-n]) {
		n++
	}
	if n > api.MaxShifts {
		return nil, api.ErrMany
	}
	return shifts[:n], api.OK
}
