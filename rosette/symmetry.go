package rosette

import (
	"slices"

	"barleycorn/api"
)

// Turned returns a rosette turned by s (P3.6).
func Turned(f []int, s int) ([]int, api.Errno) {
	if e := Check(f); e != api.OK {
		return nil, e
	}
	return turned(f, s), api.OK
}

// Mirrored returns the mirrored rosette (P3.6).
func Mirrored(f []int) ([]int, api.Errno) {
	if e := Check(f); e != api.OK {
		return nil, e
	}
	return mirrored(f), api.OK
}

// Period returns the period of a rosette (P3.6).
func Period(f []int) (int, api.Errno) {
	if e := Check(f); e != api.OK {
		return 0, e
	}
	period := 1
	for !slices.Equal(turned(f, period), f) {
		period++
	}
	return period, api.OK
}

// Axes returns the axes of a rosette (P3.6).
func Axes(f []int) ([]int, api.Errno) {
	if e := Check(f); e != api.OK {
		return nil, e
	}
	return turns(mirrored(f), f), api.OK
}

// Match returns by how many steps f has to be turned to be g (P3.6).
func Match(f, g []int) (int, api.Errno) {
	if e := Check(f); e != api.OK {
		return 0, e
	}
	if e := Check(g); e != api.OK {
		return 0, e
	}
	found := turns(f, g)
	if len(found) == 0 {
		return 0, api.ErrNone
	}
	return found[0], api.OK
}

// turned returns a valid rosette turned by any s.
func turned(f []int, s int) []int {
	result := make([]int, len(f))
	first := wrapped(s, len(f))
	for p, h := range f {
		result[wrapped(p+first, len(f))] = h
	}
	return result
}

// mirrored returns the mirrored one of a valid rosette.
func mirrored(f []int) []int {
	result := make([]int, len(f))
	for p, h := range f {
		result[wrapped(-p, len(f))] = h
	}
	return result
}

// turns returns all s on the wheel of f, in increasing order, for which f turned by s is g.
func turns(f, g []int) []int {
	var all []int
	for s := range f {
		if slices.Equal(turned(f, s), g) {
			all = append(all, s)
		}
	}
	return all
}
