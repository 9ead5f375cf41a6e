package groove

import (
	"cmp"
	"iter"
	"math/bits"
	"slices"

	"barleycorn/api"
)

// Distance returns the square of the distance of two lines (P5.2).
func Distance(a, b []api.Spot) (api.Square, api.Errno) {
	if !isLine(a) || !isLine(b) {
		return api.Square{}, api.ErrArg
	}
	return api.Square(distance(a, b).lowest()), api.OK
}

// Apart reports whether the distance of two lines is at least so much (P5.2).
func Apart(a, b []api.Spot, least int) (bool, api.Errno) {
	if !isLine(a) || !isLine(b) || !areWithin(0, api.MaxApart, least) {
		return false, api.ErrArg
	}
	return !areNearer(a, b, least), api.OK
}

// A square is the square of a distance, not always in lowest terms: Num is 0 or more, Den above 0.
type square api.Square

// compare returns a number below 0, 0, or one above 0, as a square is less than, equal to, or greater than another one.
func (s square) compare(other square) int {
	// The products may have more than 64 bits.
	high, low := bits.Mul64(uint64(s.Num), uint64(other.Den))
	otherHigh, otherLow := bits.Mul64(uint64(other.Num), uint64(s.Den))
	return cmp.Or(cmp.Compare(high, otherHigh), cmp.Compare(low, otherLow))
}

// lowest returns a square in lowest terms.
func (s square) lowest() square {
	a, b := s.Den, s.Num
	for b != 0 {
		a, b = b, a%b
	}
	return square{Num: s.Num / a, Den: s.Den / a}
}

// distance returns the square of the distance of two lists of spots, which may lie beyond MaxSpot as far as a foot may.
func distance(a, b []api.Spot) square {
	var squares []square
	for s := range segments(a) {
		for other := range segments(b) {
			squares = append(squares, s.distance(other))
		}
	}
	return slices.MinFunc(squares, square.compare)
}

// areNearer reports whether the distance of two lists of spots is less than so much.
func areNearer(a, b []api.Spot, than int) bool {
	return distance(a, b).compare(square{Num: than * than, Den: 1}) < 0
}

// A segment is the points from one spot to another one, which may be the same.
type segment struct{ from, to api.Spot }

// segments yields the segments of a line: of one spot alone, the one from it to itself.
func segments(line []api.Spot) iter.Seq[segment] {
	return func(yield func(segment) bool) {
		if len(line) == 1 {
			yield(segment{line[0], line[0]})
			return
		}
		for i, to := range line[1:] {
			if !yield(segment{line[i], to}) {
				return
			}
		}
	}
}

// distance returns the square of the distance of two segments. If they do not cross, it is that of an end of one of them from the other one, also where they meet.
func (s segment) distance(other segment) square {
	if s.crosses(other) {
		return square{Num: 0, Den: 1}
	}
	ends := []square{s.distanceOf(other.from), s.distanceOf(other.to), other.distanceOf(s.from), other.distanceOf(s.to)}
	return slices.MinFunc(ends, square.compare)
}

// crosses reports whether each segment has its ends on both sides of the other one.
func (s segment) crosses(other segment) bool {
	return areOpposite(s.side(other.from), s.side(other.to)) && areOpposite(other.side(s.from), other.side(s.to))
}

// side returns a number above 0 or below 0, as a spot is on the one or the other side of a segment, and 0 in between.
func (s segment) side(p api.Spot) int { return minus(s.to, s.from).cross(minus(p, s.from)) }

// distanceOf returns the square of the distance of a spot from a segment.
func (s segment) distanceOf(p api.Spot) square {
	along, reach := minus(s.to, s.from), minus(p, s.from)
	length, forward := along.dot(along), along.dot(reach)
	if forward <= 0 {
		return square{Num: reach.dot(reach), Den: 1}
	}
	if forward >= length {
		back := minus(p, s.to)
		return square{Num: back.dot(back), Den: 1}
	}
	off := along.cross(reach)
	return square{Num: off * off, Den: length}
}

// A vector is a way from one spot to another one.
type vector struct{ x, y int }

// minus returns the way from one spot to another one.
func minus(to, from api.Spot) vector { return vector{to.X - from.X, to.Y - from.Y} }

// dot returns the scalar product of two vectors.
func (v vector) dot(w vector) int { return v.x*w.x + v.y*w.y }

// cross returns the cross product of two vectors.
func (v vector) cross(w vector) int { return v.x*w.y - v.y*w.x }

// areOpposite reports whether one number is below 0, and the other one above.
func areOpposite(a, b int) bool { return min(a, b) < 0 && max(a, b) > 0 }
