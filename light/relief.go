package light

import (
	"iter"

	"barleycorn/api"
)

// Facets returns the tilts of all facets (P6.1).
func Facets(s api.Surface) ([]api.Tilt, api.Errno) {
	if e := Check(s); e != api.OK {
		return nil, e
	}
	r := relief{s}
	return picture(r, r.tilt), api.OK
}

// A relief is a valid surface at work.
type relief struct{ api.Surface }

// A cell is a facet, by the corner with the least x and the least y.
type cell struct{ x, y int }

// cells yields all facets in the order of their indices.
func (r relief) cells() iter.Seq[cell] {
	return func(yield func(cell) bool) {
		for y := range r.H - 1 {
			for x := range r.W - 1 {
				if !yield(cell{x, y}) {
					return
				}
			}
		}
	}
}

// has reports whether a cell is one of the surface.
func (r relief) has(c cell) bool {
	return areWithin(0, r.W-2, c.x) && areWithin(0, r.H-2, c.y)
}

// corners returns the heights of the corners of a cell: two, and the two further down.
func (r relief) corners(c cell) (left, right, lowLeft, lowRight int) {
	i := c.y*r.W + c.x
	return r.Heights[i], r.Heights[i+1], r.Heights[i+r.W], r.Heights[i+r.W+1]
}

// tilt returns how much a cell rises.
func (r relief) tilt(c cell) api.Tilt {
	left, right, lowLeft, lowRight := r.corners(c)
	return api.Tilt{X: right + lowRight - left - lowLeft, Y: lowLeft + lowRight - left - right}
}

// middle returns four times the height in the middle of a cell.
func (r relief) middle(c cell) int {
	left, right, lowLeft, lowRight := r.corners(c)
	return left + right + lowLeft + lowRight
}

// picture returns what a method gives for each cell.
func picture[V any](r relief, of func(cell) V) []V {
	var values []V
	for c := range r.cells() {
		values = append(values, of(c))
	}
	return values
}
