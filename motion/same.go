package motion

import (
	"slices"

	"barleycorn/api"
	"barleycorn/exact"
)

// Mirrors reports whether a path has mirrors (P2.4).
func Mirrors(p []api.Arm) (bool, api.Errno) {
	if e := CheckPath(p); e != api.OK {
		return false, e
	}
	if !isPlain(p) {
		return false, api.ErrLarge
	}
	return drawSame(p, ofMirroredPlaces(p), api.SameSense|api.SameTurned), api.OK
}

// Same reports whether two paths draw the same curve (P2.4).
func Same(p, q []api.Arm, how uint8) (bool, api.Errno) {
	for _, path := range [][]api.Arm{p, q} {
		if e := CheckPath(path); e != api.OK {
			return false, e
		}
	}
	switch {
	case how > api.SameSense|api.SameTurned|api.SameMirror:
		return false, api.ErrArg
	case !isPlain(p) || !isPlain(q):
		return false, api.ErrLarge
	}
	return drawSame(p, q, how), api.OK
}

// drawSame reports whether two plain paths draw the same curve.
func drawSame(p, q []api.Arm, how uint8) bool {
	// What a path becomes by some changes in any order, it becomes, too, if it first is gone through in the other sense or not, then has its places mirrored or not, and then begins elsewhere and is turned.
	changed := [][]api.Arm{bare(p)}
	if how&api.SameSense != 0 {
		changed = append(changed, inOtherSense(changed[0]))
	}
	if how&api.SameMirror != 0 {
		for _, path := range changed {
			changed = append(changed, ofMirroredPlaces(path))
		}
	}
	goal := bare(q)
	return slices.ContainsFunc(changed, func(path []api.Arm) bool {
		return beginsElsewhere(path, goal, how&api.SameTurned != 0)
	})
}

// bare returns the bare path of a path.
func bare(p []api.Arm) []api.Arm {
	by := max(times(p), 1)
	var divided []api.Arm
	for _, a := range p {
		divided = append(divided, api.Arm{K: a.K / by, C: a.C})
	}
	return divided
}

// inOtherSense returns the path that goes through a path in the other sense.
func inOtherSense(p []api.Arm) []api.Arm {
	var back []api.Arm
	for _, a := range slices.Backward(p) {
		back = append(back, api.Arm{K: -a.K, C: a.C})
	}
	return back
}

// ofMirroredPlaces returns the path of the mirrored places of a path.
func ofMirroredPlaces(p []api.Arm) []api.Arm {
	var other []api.Arm
	for _, a := range slices.Backward(p) {
		other = append(other, api.Arm{K: -a.K, C: mirrored(a.C)})
	}
	return other
}

// beginsElsewhere reports whether q is p from another beginning: whether the C of q are those of p, each times v^K, for one v with |v| = 1, and if turned, all of them times one c with |c| = 1.
func beginsElsewhere(p, q []api.Arm, turned bool) bool {
	if len(p) != len(q) {
		return false
	}
	var demands []demand
	for i, a := range p {
		d := demand{k: a.K, w: sure(exact.DivTurn(q[i].C, a.C))}
		if q[i].K != a.K || !isOne(sure(exact.Norm(d.w))) {
			return false
		}
		demands = append(demands, d)
	}
	if turned {
		demands = withoutTurn(demands)
	}
	all := demand{w: sure(exact.Around(0, 1))}
	for _, d := range demands {
		both, ok := merged(all, d)
		if !ok {
			return false
		}
		all = both
	}
	return true
}

// demand is that v^k has to be w, whose norm is 1.
type demand struct {
	k int
	w api.Turn
}

// withoutTurn returns what demands say of v if c * v^k has to be w, with any c: all are divided by the first one, which only says what c is.
func withoutTurn(demands []demand) []demand {
	var rest []demand
	for _, d := range demands {
		rest = append(rest, demand{k: d.k - demands[0].k, w: sure(exact.DivTurn(d.w, demands[0].w))})
	}
	return rest
}

// merged returns the one demand that two demands make together, by Euclid's algorithm, unless they contradict each other.
//
// If a v fulfils both, all numbers on the way are its powers, none of them higher than those at the beginning, and so none of them has more digits (the powers of a number whose norm is 1 have no less digits than it has). So a number that becomes too large shows a contradiction.
func merged(a, b demand) (demand, bool) {
	a, b = upwards(a), upwards(b)
	for b.k != 0 {
		if a.k < b.k {
			a, b = b, a
			continue
		}
		n := min(a.k/b.k, api.MaxPower)
		power, e := exact.Power(b.w, n)
		if e != api.OK {
			return demand{}, false
		}
		rest, e := exact.DivTurn(a.w, power)
		if e != api.OK {
			return demand{}, false
		}
		a = demand{k: a.k - n*b.k, w: rest}
	}
	return a, isOne(b.w.X) // and so w is 1, since its norm is 1
}

// upwards returns the demand with a k from 0 on that says the same.
func upwards(d demand) demand {
	if d.k < 0 {
		return demand{k: -d.k, w: mirrored(d.w)}
	}
	return d
}
