package exact

import (
	"slices"

	"barleycorn/api"
)

// Roots returns how many roots a polynomial has (P1.6).
func Roots(p []api.Frac) (int, api.Errno) {
	coefs, e := fromPoly(p)
	switch {
	case e != api.OK:
		return 0, e
	case len(coefs) == 0:
		return 0, api.ErrNone
	}
	return unlessLarge(func() int { return newChain(primitive(coefs)).count(farBelow, farAbove) })
}

// RootsIn returns how many roots a polynomial has that are above lo and at most hi (P1.6).
func RootsIn(p []api.Frac, lo, hi api.Frac) (int, api.Errno) {
	coefs, e := fromPoly(p)
	if e != api.OK {
		return 0, e
	}
	from, to, e := twoFracs(lo, hi)
	switch {
	case e != api.OK:
		return 0, e
	case len(coefs) == 0:
		return 0, api.ErrNone
	case from.compare(to) > 0:
		return 0, api.ErrArg
	}
	return unlessLarge(func() int {
		c := newChain(primitive(coefs))
		return c.count(c.at(from), c.at(to))
	})
}

// chain is a polynomial each of whose roots is one once, and the degrees of the members of its chain (Sturm's): itself, its derivative, and then always what is left, times -1, of the member before the last one by the last one.
type chain struct {
	first   []whole
	degrees []int
}

// newChain returns the chain of the polynomial that has the roots of p, each once; p is not 0.
func newChain(p []whole) chain {
	slope := derivative(p)
	if len(slope) == 0 {
		return chain{first: p, degrees: []int{0}}
	}
	first, _ := divided(p, commonFactor(p, slope))
	return chain{first: first, degrees: chainDegrees(first)}
}

// derivative returns the derivative of a polynomial.
func derivative(p []whole) []whole {
	var slope []whole
	for i, c := range p[1:] {
		slope = append(slope, c.times(fromInt(i+1)))
	}
	return slope
}

// chainDegrees returns the degrees of the members of the chain of p, whose degree is above 0.
//
// The chain has a member of some degree if and only if a certain determinant is not 0 (a principal subresultant of p and its derivative), and the chain modulo a prime has one if and only if it is not 0 there. So each degree that a prime shows is right, and one that none has shown is wrong as soon as the product of the primes is above the determinant.
func chainDegrees(p []whole) []int {
	slope := derivative(p)
	shown := make([]bool, len(p))
	shown[len(p)-1] = true
	tried := 0
	for m := range primes() {
		least := slices.Index(shown, false)
		if least < 0 || tried > determinantBits(p, slope, least) {
			break
		}
		a := m.poly(p)
		if len(a) < len(p) {
			continue
		}
		for rest := range m.rests(a, m.poly(slope)) {
			shown[len(rest)-1] = true
		}
		tried += primeBits
	}
	var degrees []int
	for degree, found := range slices.Backward(shown) {
		if found {
			degrees = append(degrees, degree)
		}
	}
	return degrees
}

// determinantBits returns how many binary digits the determinant for a degree has at most: its rows are coefficients of p, as often as the degree of q is above this one, and of q, as often as that of p is (by Hadamard's bound). Lesser degrees have greater ones.
func determinantBits(p, q []whole, degree int) int {
	return (len(q)-1-degree)*lengthBits(p) + (len(p)-1-degree)*lengthBits(q)
}

// lengthBits returns how many binary digits the root of the sum of the squares of some numbers has at most; they are at most MaxCoefs numbers.
func lengthBits(list []whole) int {
	const more = 4 // the root of MaxCoefs is less than 2^4
	most := 0
	for _, n := range list {
		most = max(most, n.size.bits())
	}
	return most + more
}

// members returns the members of a chain, as far as so many digits show them, and reports whether they show the sign of the last coefficient of each.
func (c chain) members(keep precision) ([][]ball, bool) {
	var members [][]ball
	for i, degree := range c.degrees {
		var member []ball
		switch i {
		case 0:
			member = each(c.first, keep.exactBall)
		case 1:
			member = each(derivative(c.first), keep.exactBall)
		default:
			// What is above the degree is 0, though the balls may not show it.
			member = keep.negativeRest(members[i-2], members[i-1])[:degree+1]
		}
		if member[degree].sign() == 0 {
			return nil, false
		}
		members = append(members, level(member))
	}
	return members, true
}

// place is where the signs of the members of a chain are counted: it says the sign of the member with an index, or 0 if so many digits do not show it.
type place func(i int, member []ball, keep precision) int

// farAbove is above all roots of all members.
func farAbove(_ int, member []ball, _ precision) int { return member[len(member)-1].sign() }

// farBelow is below all roots of all members.
func farBelow(_ int, member []ball, _ precision) int {
	sign := member[len(member)-1].sign()
	if len(member)%2 == 0 { // an odd degree
		return -sign
	}
	return sign
}

// at returns the place that is a number. The sign of the first member is exact there, so that a root is known as one.
func (c chain) at(x ratio) place {
	first := valueOver(c.first, x).sign()
	return func(i int, member []ball, keep precision) int {
		if i == 0 {
			return first
		}
		return keep.valueAt(member, keep.exactBall(x.num), keep.exactBall(whole{size: x.den})).sign()
	}
}

// count returns how many roots of the first member of a chain are above one place and at most at another one.
func (c chain) count(from, to place) int {
	for keep := firstPrecision; ; keep *= 2 {
		if n, sure := c.countWith(keep, from, to); sure {
			return n
		}
	}
}

// countWith returns what count does, if so many digits show it: as many roots as changes of signs are lost between the places (by Sturm's theorem).
func (c chain) countWith(keep precision, from, to place) (lost int, sure bool) {
	members, sure := c.members(keep)
	if !sure {
		return 0, false
	}
	changes := func(at place) int {
		signs := make([]int, len(members))
		for i, member := range members {
			signs[i] = at(i, member, keep)
		}
		n, known := changesOf(signs)
		sure = sure && known
		return n
	}
	lost = changes(from) - changes(to)
	return lost, sure
}

// changesOf returns how often signs change from one to the next, if that is known. (A first member that is 0 does not count. Another member that is 0, or has an unknown sign, does not matter between opposite signs; where it is 0, its neighbours do have opposite signs.)
func changesOf(signs []int) (n int, known bool) {
	if signs[0] == 0 {
		signs = signs[1:]
	}
	for i, sign := range signs {
		switch {
		case sign == 0 && (i == 0 || i == len(signs)-1 || signs[i-1]*signs[i+1] >= 0):
			return 0, false
		case sign == 0 || i > 0 && signs[i-1] == -sign:
			n++ // an unknown sign stands for the change between its neighbours
		}
	}
	return n, true
}
