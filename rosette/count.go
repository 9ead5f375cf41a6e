package rosette

import "barleycorn/api"

// Count returns how many rosettes lift the rubber by a list (P3.3).
func Count(lift, b []int) (int, api.Errno) {
	if e := checkWith(lift, b); e != api.OK {
		return 0, e
	}
	if len(b) > api.MaxCount {
		return 0, api.ErrMany
	}
	return newCount(lift, b).total(), api.OK
}

// A count is what is asked of each rosette that is counted: it is below what is under the list, and where it is as high a step is full. Only full steps can lift the rubber as high as the list, so it needs one of them wherever it is.
type count struct {
	most    []int   // what is under the list
	lifting []uint8 // for each step, a bit for each drop: whether the step at its offset gives the lift if it is full
	before  int     // how many of the last steps matter: the rubber reaches them and the next one
}

// A state is what matters of the steps that were gone through: a bit for each one that is full. The first ones matter because they come again behind the last one.
type state struct{ first, last uint8 }

// newCount returns the count of the rosettes that lift a rubber by a list.
func newCount(lift, b []int) count {
	most := underneath(lift, b)
	lifting := around(make([]uint8, len(lift)), b, func(bits uint8, p, j, drop int) uint8 {
		if most[wrapped(p+j, len(most))]-drop == lift[p] {
			bits |= 1 << (j + reach(b))
		}
		return bits
	})
	return count{most: most, lifting: lifting, before: len(b) - 1}
}

// total returns the number of the rosettes, modulo CountBase.
func (c count) total() int {
	ways, next := map[state]uint64{{}: 1}, map[state]uint64{}
	for q := range len(c.most) + c.before {
		clear(next)
		for s, n := range ways {
			for full, heights := range c.heights(s, q) {
				if t, lifts := c.after(s, q, uint8(full)); lifts {
					next[t] = (next[t] + n*heights) % api.CountBase
				}
			}
		}
		ways, next = next, ways
	}
	sum := uint64(0)
	for _, n := range ways {
		sum += n
	}
	return int(sum % api.CountBase)
}

// heights returns how many heights the step q may have that are not full, and that are. Behind the last step the first ones come again, as they were.
func (c count) heights(s state, q int) [2]uint64 {
	if q < len(c.most) {
		return [2]uint64{uint64(c.most[q]), 1}
	}
	full := uint64(s.first >> (q - len(c.most)) & 1)
	return [2]uint64{1 - full, full}
}

// after returns the state after the step q, and whether the rubber gets its lift where q is the last step that it reaches. The first steps come too early to tell.
func (c count) after(s state, q int, full uint8) (state, bool) {
	reached := s.last | full<<c.before
	s.last = reached >> 1
	if q < c.before {
		s.first |= full << q
		return s, true
	}
	return s, reached&c.lifting[wrapped(q-c.before/2, len(c.most))] != 0
}
