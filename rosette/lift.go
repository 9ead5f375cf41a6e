package rosette

import (
	"iter"
	"slices"

	"barleycorn/api"
)

// Lift returns the lift of a rosette (P3.2).
func Lift(f, b []int) ([]int, api.Errno) {
	if e := checkWith(f, b); e != api.OK {
		return nil, e
	}
	return lifted(f, b), api.OK
}

// Under returns what is under a rosette (P3.2).
func Under(f, b []int) ([]int, api.Errno) {
	if e := checkWith(f, b); e != api.OK {
		return nil, e
	}
	return underneath(f, b), api.OK
}

// Close returns what is under the lift of a rosette (P3.2).
func Close(f, b []int) ([]int, api.Errno) {
	if e := checkWith(f, b); e != api.OK {
		return nil, e
	}
	return underneath(lifted(f, b), b), api.OK
}

// Grind returns the lift of what is under a rosette (P3.2).
func Grind(f, b []int) ([]int, api.Errno) {
	if e := checkWith(f, b); e != api.OK {
		return nil, e
	}
	return lifted(underneath(f, b), b), api.OK
}

// Find returns the greatest rosette that lifts the rubber by a list (P3.3).
func Find(lift, b []int) ([]int, api.Errno) {
	if e := checkWith(lift, b); e != api.OK {
		return nil, e
	}
	// All rosettes with this lift are below what is under it: if that has another lift, there are none.
	greatest := underneath(lift, b)
	if !slices.Equal(lifted(greatest, b), lift) {
		return nil, api.ErrNone
	}
	return greatest, api.OK
}

// lifted returns the lift of a valid rosette.
func lifted(f, b []int) []int {
	return around(f, b, func(best, p, j, drop int) int { return max(best, f[wrapped(p+j, len(f))]-drop) })
}

// underneath returns what is under a valid rosette.
func underneath(f, b []int) []int {
	return around(f, b, func(best, p, j, drop int) int { return min(best, f[wrapped(p-j, len(f))]+drop) })
}

// around lets a rubber go around a wheel: for each step, pick makes what was picked so far, which is at first what the list first has there, anew with each offset and its drop.
func around[V any](first []V, b []int, pick func(sofar V, p, j, drop int) V) []V {
	picked := slices.Clone(first)
	for p := range picked {
		for j, drop := range offsets(b) {
			picked[p] = pick(picked[p], p, j, drop)
		}
	}
	return picked
}

// offsets yields the offsets of a rubber with their drops.
func offsets(b []int) iter.Seq2[int, int] {
	return func(yield func(j, drop int) bool) {
		for i, drop := range b {
			if !yield(i-reach(b), drop) {
				return
			}
		}
	}
}
