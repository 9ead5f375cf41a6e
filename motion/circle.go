package motion

import (
	"iter"
	"slices"

	"barleycorn/api"
	"barleycorn/exact"
)

// Stops returns how many stops a path has (P2.5).
func Stops(p []api.Arm) (int, api.Errno) {
	if e := CheckPath(p); e != api.OK {
		return 0, e
	}
	turning := slices.Collect(moving(p))
	switch {
	case len(turning) == 0:
		return 0, api.ErrNone
	case !isPlain(p):
		return 0, api.ErrLarge
	case spread(turning) > api.MaxSpread:
		return 0, api.ErrMany
	}
	return step(turning) * zeros(derivative(turning)), api.OK
}

// derivative returns the path whose places are those of the derivative of a path, times u; the arm with K = 0 has to be left out before.
func derivative(p []api.Arm) []api.Arm {
	var slope []api.Arm
	for _, a := range p {
		k := api.Turn{X: exact.FromInt(a.K), Y: exact.FromInt(0)}
		slope = append(slope, api.Arm{K: a.K, C: sure(exact.MulTurn(k, a.C))})
	}
	return slope
}

// zeros returns how many values u^step has where the place of a path is 0.
func zeros(p []api.Arm) int {
	above, _ := unrolled(p)
	n := sure(exact.Roots(sure(exact.Gcd(above.x, above.y))))
	if max(len(above.x), len(above.y)) <= spread(p) {
		n++ // the term with t^spread is gone, so the place is 0 at u^step = -1 too, where t is infinite
	}
	return n
}

// Inside reports whether no place of a path is further from 0 than r (P2.5).
func Inside(p []api.Arm, r api.Frac) (bool, api.Errno) {
	if e := CheckPath(p); e != api.OK {
		return false, e
	}
	if e := exact.CheckFrac(r); e != api.OK {
		return false, e
	}
	switch {
	case r.Num.Neg:
		return false, api.ErrArg
	case !isPlain(p) || !isShort(r):
		return false, api.ErrLarge
	case spread(p) > api.MaxSpread:
		return false, api.ErrMany
	}
	above, below := unrolled(p)
	reach := product(constant(sure(exact.Mul(r, r))), below.norm())
	return neverNegative(difference(reach, above.norm())), api.OK
}

// unrolled returns above and below, so that the place of a path at u is a power of u times the value of above / below at t, where u^step = (1 + t i) / (1 - t i). (Then t goes once through all real numbers while u^step goes around once; it is infinite at u^step = -1.)
//
// A plain path and its derivative with a spread of up to MaxSpread lead to numbers of less than 180 digits, in all that is made of above, below and a short r here, so nothing becomes too large.
func unrolled(p []api.Arm) (above, below winding) {
	one := exact.FromInt(1)
	up := winding{x: constant(one), y: []api.Frac{exact.FromInt(0), one}}
	down := winding{x: up.x, y: []api.Frac{exact.FromInt(0), negated(one)}}
	below = winding{x: constant(one)}
	first := true
	for c := range coefficients(p) {
		if !first {
			above, below = above.times(up), below.times(down)
		}
		first = false
		above = above.plus(winding{x: constant(c.X), y: constant(c.Y)}.times(below))
	}
	return above, below
}

// coefficients yields the C of the arms of a path, the last one first, and 0 wherever an arm could be by the step, but is not.
func coefficients(p []api.Arm) iter.Seq[api.Turn] {
	return func(yield func(api.Turn) bool) {
		by := step(p)
		for i, a := range slices.Backward(p) {
			if !yield(a.C) {
				return
			}
			for k := a.K - by; i > 0 && k > p[i-1].K; k -= by {
				if !yield(zero()) {
					return
				}
			}
		}
	}
}
