package motion

import (
	"iter"

	"barleycorn/api"
	"barleycorn/exact"
)

// CheckPath returns an error unless a list is a valid path (P2.1).
func CheckPath(p []api.Arm) api.Errno {
	if len(p) > api.MaxArms {
		return api.ErrMany
	}
	least := -api.MaxK
	for _, a := range p {
		if a.K < least || a.K > api.MaxK || exact.CheckTurn(a.C) != api.OK || isZero(a.C) {
			return api.ErrPath
		}
		least = a.K + 1
	}
	return api.OK
}

// Times returns how often a path goes through its curve (P2.4).
func Times(p []api.Arm) (int, api.Errno) {
	if e := CheckPath(p); e != api.OK {
		return 0, e
	}
	return times(p), api.OK
}

// times returns how often a valid path goes through its curve.
func times(p []api.Arm) int {
	common := 0
	for a := range moving(p) {
		common = divisor(common, max(a.K, -a.K))
	}
	return common
}

// Order returns the order of a path (P2.4).
func Order(p []api.Arm) (int, api.Errno) {
	if e := CheckPath(p); e != api.OK {
		return 0, e
	}
	if len(p) == 1 && p[0].K == 0 {
		return 1, api.OK // only c = 1 leaves a place that is not 0 where it is
	}
	if len(p) < 2 {
		return 0, api.OK
	}
	// All v^K have to be the same c, so v is a root of 1 by the step. For each c there are as many v as the path goes through its curve.
	return step(p) / times(p), api.OK
}

// moving yields the arms of a path that turn while it is gone through.
func moving(p []api.Arm) iter.Seq[api.Arm] {
	return func(yield func(api.Arm) bool) {
		for _, a := range p {
			if a.K != 0 && !yield(a) {
				return
			}
		}
	}
}

// step returns the step of a path.
func step(p []api.Arm) int {
	common := 0
	for _, a := range p {
		common = divisor(common, a.K-p[0].K)
	}
	return common
}

// spread returns the spread of a path.
func spread(p []api.Arm) int {
	if len(p) < 2 {
		return 0
	}
	return (p[len(p)-1].K - p[0].K) / step(p)
}

// isPlain reports whether a path is plain.
func isPlain(p []api.Arm) bool {
	common := 1
	for _, a := range p {
		for _, part := range []api.Frac{a.C.X, a.C.Y} {
			if !isShort(part) {
				return false
			}
			den := int(part.Den.Groups[0])
			common = common / divisor(common, den) * den
			if common >= api.MaxPlain {
				return false
			}
		}
	}
	return true
}

// isShort reports whether the Num (without its sign) and the Den of a fraction are less than MaxPlain. (That is so of all numbers with one group, and of no others.)
func isShort(a api.Frac) bool { return len(a.Num.Groups) <= 1 && len(a.Den.Groups) <= 1 }
