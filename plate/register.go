package plate

import "barleycorn/api"

// Register returns the shifts that bring marks into register (P8.4).
func Register(want, seen []api.Spot, tol int) (api.Box, api.Errno) {
	if !isWithin(1, api.MaxMarks, len(want)) {
		return api.Box{}, api.ErrMany
	}
	if len(seen) != len(want) || !areSpots(want) || !areSpots(seen) || !isWithin(0, api.MaxTol, tol) {
		return api.Box{}, api.ErrArg
	}
	box := shifts(want[0], seen[0], tol)
	for i, mark := range seen {
		box = common(box, shifts(want[i], mark, tol))
	}
	if box.Low.X > box.High.X || box.Low.Y > box.High.Y {
		return api.Box{}, api.ErrNone
	}
	return box, api.OK
}

// areSpots reports whether all coordinates are in range.
func areSpots(spots []api.Spot) bool {
	for _, s := range spots {
		if !isWithin(-api.MaxSpot, api.MaxSpot, s.X) || !isWithin(-api.MaxSpot, api.MaxSpot, s.Y) {
			return false
		}
	}
	return true
}

// shifts returns the shifts that bring one mark into register.
func shifts(want, seen api.Spot, tol int) api.Box {
	x, y := want.X-seen.X, want.Y-seen.Y
	return api.Box{Low: api.Spot{X: x - tol, Y: y - tol}, High: api.Spot{X: x + tol, Y: y + tol}}
}

// common returns what two boxes have in common; if that is nothing, a Low is greater than its High.
func common(a, b api.Box) api.Box {
	return api.Box{
		Low:  api.Spot{X: max(a.Low.X, b.Low.X), Y: max(a.Low.Y, b.Low.Y)},
		High: api.Spot{X: min(a.High.X, b.High.X), Y: min(a.High.Y, b.High.Y)},
	}
}
