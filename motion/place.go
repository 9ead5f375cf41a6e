package motion

import (
	"barleycorn/api"
	"barleycorn/exact"
)

// At returns the place of a path at u (P2.3).
func At(p []api.Arm, u api.Turn) (api.Turn, api.Errno) {
	if e := CheckPath(p); e != api.OK {
		return api.Turn{}, e
	}
	if e := exact.CheckTurn(u); e != api.OK {
		return api.Turn{}, e
	}
	// A norm that is too large is not 1 either.
	if norm, e := exact.Norm(u); e != api.OK || !isOne(norm) {
		return api.Turn{}, api.ErrArg
	}
	sum := zero()
	for _, a := range p {
		power, e := exact.Power(u, a.K)
		if e != api.OK {
			return api.Turn{}, e
		}
		product, e := exact.MulTurn(a.C, power)
		if e != api.OK {
			return api.Turn{}, e
		}
		if sum, e = exact.AddTurn(sum, product); e != api.OK {
			return api.Turn{}, e
		}
	}
	return sum, api.OK
}

// Points returns 4 * n spots of a path (P2.3).
func Points(p []api.Arm, n int) ([]api.Spot, api.Errno) {
	if e := CheckPath(p); e != api.OK {
		return nil, e
	}
	if n < 1 || n > api.MaxPoints {
		return nil, api.ErrArg
	}
	var spots []api.Spot
	i := api.Turn{X: exact.FromInt(0), Y: exact.FromInt(1)}
	for q := range 4 {
		corner := sure(exact.Power(i, q))
		for s := range n {
			u := sure(exact.MulTurn(corner, sure(exact.Around(s, n))))
			spot, e := spotAt(p, u)
			if e != api.OK {
				return nil, e
			}
			spots = append(spots, spot)
		}
	}
	return spots, api.OK
}

// spotAt returns the spot that is nearest to the place of a path at u.
func spotAt(p []api.Arm, u api.Turn) (api.Spot, api.Errno) {
	place, e := At(p, u)
	if e != api.OK {
		return api.Spot{}, e
	}
	x, e := exact.Nearest(place.X)
	if e != api.OK {
		return api.Spot{}, e
	}
	y, e := exact.Nearest(place.Y)
	if e != api.OK {
		return api.Spot{}, e
	}
	if !isCoordinate(x) || !isCoordinate(y) {
		return api.Spot{}, api.ErrSpot
	}
	return api.Spot{X: x, Y: y}, api.OK
}

// isCoordinate reports whether a number is one that a spot may have.
func isCoordinate(n int) bool { return n >= -api.MaxSpot && n <= api.MaxSpot }
