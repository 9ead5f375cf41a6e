package pattern

import (
	"cmp"
	"iter"
	"slices"

	"barleycorn/api"
)

// Symmetries returns the symmetries of a program (P4.4).
func Symmetries(p api.Program) ([]api.Move, api.Errno) {
	f, e := familyOf(p)
	if e != api.OK {
		return nil, e
	}
	return slices.Collect(moves(f, f, api.MoveMirror|api.MoveBack)), api.OK
}

// Same returns the first move that takes p to q (P4.4).
func Same(p, q api.Program, how uint8) (api.Move, api.Errno) {
	f, e := familyOf(p)
	if e != api.OK {
		return api.Move{}, e
	}
	g, e := familyOf(q)
	if e != api.OK {
		return api.Move{}, e
	}
	if how > api.MoveMirror|api.MoveBack {
		return api.Move{}, api.ErrArg
	}
	for m := range moves(f, g, how) {
		return m, api.OK
	}
	return api.Move{}, api.ErrNone
}

// moves yields the moves that take f to g, in order.
func moves(f, g *family, how uint8) iter.Seq[api.Move] {
	return func(yield func(api.Move) bool) {
		// A move takes shapes that come again to shapes that come again after as many cuts, so without that there is none.
		if f.steps() != g.steps() || f.period != g.period || f.closes() != g.closes() {
			return
		}
		c := newPair(f, g, how)
	search:
		for m := range c.candidates() {
			for j := range c.from {
				if c.taking(j, m) != m {
					continue search
				}
			}
			if !yield(m) {
				break search
			}
		}
	}
}

// A pair is two families with the same period that close after as many cuts, while moves are searched for that take the one to the other.
type pair struct {
	from, to []int // their tables of phases
	period   int
	turns    map[bool]int // by which turn the shape of the phase 0, mirrored or not, becomes the other family's, if by any
	kinds    []api.Move   // moves without Cuts and Turn, in order
}

// newPair returns the pair of f and g, with the kinds of moves that how allows, and that take shapes of f to shapes of g.
func newPair(f, g *family, how uint8) *pair {
	c := &pair{from: f.phases(), to: g.phases(), period: f.period, turns: map[bool]int{}}
	for _, kind := range []api.Move{{}, {Back: true}, {Mirror: true}, {Mirror: true, Back: true}} {
		if kind.Mirror && how&api.MoveMirror == 0 || kind.Back && how&api.MoveBack == 0 {
			continue
		}
		if turn, found := match(f, g, kind.Mirror); found {
			c.turns[kind.Mirror] = turn
			c.kinds = append(c.kinds, kind)
		}
	}
	return c
}

// match returns by which turn the shape of f with the phase 0, mirrored or not, becomes that of g, and whether one does. (With different throws different lifts may have the same shapes.)
func match(f, g *family, mirror bool) (turn int, found bool) {
	if mirror {
		f = f.mirrored()
	}
	wanted := g.shape(0)
	for turn, shape := range f.shapes() {
		if slices.Equal(shape, wanted) {
			return turn, true
		}
	}
	return 0, false
}

// taking returns the move with the Turn, and all else as m has it, that takes the cut j alone where it belongs.
func (c *pair) taking(j int, m api.Move) api.Move {
	phase, k := -c.from[j], m.Cuts+j
	if m.Mirror {
		phase = c.from[j]
	}
	if m.Back {
		k = m.Cuts - j
	}
	m.Turn = modulo(c.turns[m.Mirror]+c.to[modulo(k, len(c.to))]+phase, c.period)
	return m
}

// candidates yields the moves that take the cut 0 where it belongs, in order.
func (c *pair) candidates() iter.Seq[api.Move] {
	return func(yield func(api.Move) bool) {
		for cuts := range c.to {
			row := slices.Clone(c.kinds)
			for i := range row {
				row[i].Cuts = cuts
				row[i] = c.taking(0, row[i])
			}
			slices.SortStableFunc(row, func(a, b api.Move) int { return cmp.Compare(a.Turn, b.Turn) })
			for _, m := range row {
				if !yield(m) {
					return
				}
			}
		}
	}
}
