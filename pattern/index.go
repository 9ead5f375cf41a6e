package pattern

import (
	"barleycorn/api"
	"barleycorn/exact"
)

// Index returns how a part of a turn is best set on an index plate (P4.7).
func Index(plates []int, num, den int) (plate, holes int, off api.Frac, e api.Errno) {
	if len(plates) > api.MaxWheels {
		return 0, 0, api.Frac{}, api.ErrMany
	}
	if len(plates) == 0 || !areWithin(plates, 1, api.MaxHoles) || !isWithin(den, 1, api.MaxParts) || !isWithin(num, 0, den) {
		return 0, 0, api.Frac{}, api.ErrArg
	}
	for i, all := range plates {
		n := nearest(all, num, den)
		far := distance(n, all, num, den)
		if i == 0 || sure(exact.Compare(far, off)) < 0 {
			plate, holes, off = i, n, far
		}
	}
	return plate, holes, off, api.OK
}

// nearest returns the whole number that is nearest to all * num / den, of two the lesser one.
func nearest(all, num, den int) int { return (2*all*num + den - 1) / (2 * den) }

// distance returns how far holes / all is off num / den.
func distance(holes, all, num, den int) api.Frac {
	off := holes*den - all*num
	return sure(exact.Ratio(max(off, -off), all*den))
}
