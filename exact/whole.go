package exact

import (
	"slices"

	"barleycorn/api"
)

const (
	groupBase = 1000000000
	// largestBits is how many binary digits the numbers of MaxGroups groups have at most: those below 10^360.
	largestBits = 1196
)

// whole is a whole number of any size: size, or below 0 if neg. Then size is not 0, so that equal numbers are equal.
type whole struct {
	neg  bool
	size natural
}

// signed returns the number with a size that is below 0 if neg, unless the size is 0.
func signed(neg bool, size natural) whole { return whole{neg: neg && len(size) > 0, size: size} }

// fromInt returns the whole number that is an int.
func fromInt(n int) whole {
	size := uint64(n)
	if n < 0 {
		size = -size // right for the least int too, which has no opposite among ints
	}
	return signed(n < 0, fromWord(size))
}

// sign returns -1, 0 or 1.
func (a whole) sign() int {
	switch {
	case a.neg:
		return -1
	case len(a.size) == 0:
		return 0
	}
	return 1
}

// isZero reports whether a number is 0.
func (a whole) isZero() bool { return len(a.size) == 0 }

// negated returns -a.
func (a whole) negated() whole { return signed(!a.neg, a.size) }

// plus returns a + b.
func (a whole) plus(b whole) whole {
	switch {
	case a.neg == b.neg:
		return signed(a.neg, a.size.plus(b.size))
	case a.size.compare(b.size) < 0:
		return signed(b.neg, b.size.minus(a.size))
	}
	return signed(a.neg, a.size.minus(b.size))
}

// minus returns a - b.
func (a whole) minus(b whole) whole { return a.plus(b.negated()) }

// times returns a * b.
func (a whole) times(b whole) whole { return signed(a.neg != b.neg, a.size.times(b.size)) }

// over returns a / b, if b divides a; b is not 0.
func (a whole) over(b whole) (whole, bool) {
	quotient, rest := a.size.over(b.size)
	return signed(a.neg != b.neg, quotient), len(rest) == 0
}

// validWhole reports whether a number of api is one as the document defines it.
func validWhole(n api.Whole) bool {
	count := len(n.Groups)
	if count > api.MaxGroups {
		return false
	}
	if count == 0 {
		return !n.Neg
	}
	for _, group := range n.Groups {
		if group >= groupBase {
			return false
		}
	}
	return n.Groups[count-1] != 0
}

// fromGroups returns the number that has some groups of nine digits.
func fromGroups(groups []uint32) natural {
	var n natural
	for _, group := range slices.Backward(groups) {
		n = n.timesWord(groupBase, uint64(group))
	}
	return n
}

// groups returns the groups of a number, and panics if there are more than MaxGroups.
func (a natural) groups() []uint32 {
	if a.bits() > largestBits {
		panic(api.ErrLarge)
	}
	var groups []uint32
	for len(a) > 0 {
		// Two groups at once halve the number of long divisions.
		rest, pair := a.overWord(groupBase * groupBase)
		groups = append(groups, uint32(pair%groupBase), uint32(pair/groupBase))
		a = rest
	}
	if n := len(groups); n > 0 && groups[n-1] == 0 {
		groups = groups[:n-1]
	}
	if len(groups) > api.MaxGroups {
		panic(api.ErrLarge)
	}
	return groups
}

// given returns a number as api has it, and panics if it is too large.
func (a whole) given() api.Whole { return api.Whole{Neg: a.neg, Groups: a.size.groups()} }
