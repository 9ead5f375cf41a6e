package motion

import (
	"slices"

	"barleycorn/api"
	"barleycorn/exact"
)

// term is c * s^x; its c is not 0. (The x of a machine have few digits, so nothing that is made of them is too large.)
type term struct {
	x api.Frac
	c api.Turn
}

// terms are terms by increasing x, one for each x.
type terms struct{ list []term }

// find returns where the term with this x is, or where it has to be put.
func (t *terms) find(x api.Frac) (int, bool) {
	return slices.BinarySearchFunc(t.list, x, func(a term, x api.Frac) int { return sure(exact.Compare(a.x, x)) })
}

// closing returns the least number of turns, above 0, with which all s^x are 1; 0 if all x are 0.
func (t *terms) closing() api.Frac {
	turns := exact.FromInt(0)
	for _, a := range t.list {
		switch {
		case len(a.x.Num.Groups) == 0:
		case len(turns.Num.Groups) == 0:
			turns = period(a.x)
		default:
			// The terms up to here are again where they began after turns and its multiples, this one after those with which the Den goes away.
			rest := sure(exact.Mul(turns, a.x))
			turns = sure(exact.Mul(turns, fraction(rest.Den)))
		}
	}
	return turns
}

// period returns the least number of turns, above 0, with which s^x is 1; x is not 0.
func period(x api.Frac) api.Frac {
	turns := sure(exact.Div(exact.FromInt(1), x))
	if turns.Num.Neg {
		return negated(turns)
	}
	return turns
}

// sum is the function that a machine is at work on, and the first error of the calls that make its terms.
type sum struct {
	terms
	e api.Errno
}

// ratioOf returns the ratio of the gears of a setting.
func ratioOf(s api.Setting) api.Frac { return sure(exact.Ratio(s.Num, s.Den)) }

// add adds c * s^x.
func (s *sum) add(x api.Frac, c api.Turn) {
	if s.e != api.OK {
		return
	}
	i, found := s.find(x)
	before := zero()
	if found {
		before = s.list[i].c
	}
	after, e := exact.AddTurn(before, c)
	switch {
	case e != api.OK:
		s.e = e
	case found && isZero(after):
		s.list = slices.Delete(s.list, i, i+1)
	case found:
		s.list[i].c = after
	case !isZero(after):
		s.list = slices.Insert(s.list, i, term{x: x, c: after})
	}
}

// slide is the effect of a SetSlide.
func (s *sum) slide(set api.Setting) { s.add(exact.FromInt(0), set.C) }

// turnWork is the effect of a SetSpindle.
func (s *sum) turnWork(set api.Setting) {
	by := ratioOf(set)
	for i, t := range s.list {
		s.list[i].x = sure(exact.Add(t.x, by))
	}
}

// arm is the effect of a SetArm.
func (s *sum) arm(set api.Setting) { s.add(ratioOf(set), set.C) }

// swing is the effect of a SetSwing.
func (s *sum) swing(set api.Setting) {
	half := api.Turn{X: sure(exact.Ratio(1, 2)), Y: exact.FromInt(0)}
	c, e := exact.MulTurn(set.C, half)
	if e != api.OK {
		s.e = e
		return
	}
	s.add(ratioOf(set), c)
	s.add(negated(ratioOf(set)), c)
}

// over is the effect of a SetOver.
func (s *sum) over(api.Setting) {
	for i, t := range s.list {
		s.list[i] = term{x: negated(t.x), c: mirrored(t.c)}
	}
	slices.Reverse(s.list)
}

// scale is the effect of a SetScale.
func (s *sum) scale(set api.Setting) {
	for i, t := range s.list {
		c, e := exact.MulTurn(t.c, set.C)
		if e != api.OK {
			s.e = e
			return
		}
		s.list[i].c = c
	}
}
