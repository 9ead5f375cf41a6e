package pattern

import (
	"math/rand"
	"slices"
	"testing"

	"barleycorn/api"
)

// A view is a program as the search by trying needs it: each shape is known by a number.
type view struct {
	steps, period, closes int
	cuts                  []int         // the shapes of the cuts, until all phases come again
	images                map[int][]int // what each shape becomes by each turn, and then by each turn with Mirror
}

// viewOf returns the view of a program.
func viewOf(p api.Program, n numbering) *view {
	lift := liftOf(p)
	v := &view{steps: len(lift), period: periodOf(lift), closes: closesOf(p), cuts: shapesOf(p, n), images: map[int][]int{}}
	for phase := range v.steps {
		shape := shapeOf(p, lift, phase)
		var images []int
		for _, sign := range []int{1, -1} {
			for turn := range v.period {
				image := make([]int, v.steps)
				for step, h := range shape {
					image[mod(turn+sign*step, v.steps)] = h
				}
				images = append(images, n.number(image))
			}
		}
		v.images[n.number(shape)] = images
	}
	return v
}

// takes reports whether a move takes v to w, word by word as the chapter has it.
func (v *view) takes(m api.Move, w *view) bool {
	if v.steps != w.steps || v.period != w.period || m.Cuts < 0 || m.Cuts >= w.closes || m.Turn < 0 || m.Turn >= v.period {
		return false
	}
	image, sign := m.Turn, 1
	if m.Mirror {
		image += v.period
	}
	if m.Back {
		sign = -1
	}
	for j := range multiple(len(v.cuts), len(w.cuts)) {
		if v.images[v.cuts[j%len(v.cuts)]][image] != w.cuts[mod(m.Cuts+sign*j, len(w.cuts))] {
			return false
		}
	}
	return true
}

// movesTo returns all moves that take v to w, in order, by trying all that there are.
func (v *view) movesTo(w *view, how uint8) []api.Move {
	var found []api.Move
	for cuts := range w.closes {
		for turn := range v.period {
			for k := range 4 {
				m := api.Move{Cuts: cuts, Turn: turn, Mirror: k/2 == 1, Back: k%2 == 1}
				if m.Mirror && how&1 == 0 || m.Back && how&2 == 0 {
					continue
				}
				if v.takes(m, w) {
					found = append(found, m)
				}
			}
		}
	}
	return found
}

// skew returns a program whose lift has the period 3 and no axis.
func skew(shifts ...int) api.Program {
	p := flames(shifts...)
	p.Rosette = []int{0, 1, 3, 0, 1, 3}
	return p
}

// TestSymmetriesExamples: P4.4, the chapter's example, programs with no symmetry but the one that leaves all as it is, and with all kinds of them.
func TestSymmetriesExamples(t *testing.T) {
	turned := []api.Move{{}, {Turn: 2, Mirror: true, Back: true}, {Cuts: 1, Mirror: true, Back: true}, {Cuts: 1, Turn: 1}, {Cuts: 2, Turn: 1, Mirror: true, Back: true}, {Cuts: 2, Turn: 2}}
	all4 := []api.Move{{}, {Back: true}, {Mirror: true}, {Mirror: true, Back: true}}
	for i, x := range []struct {
		p    api.Program
		want []api.Move
	}{
		{flames(1), turned},
		{skew(0), []api.Move{{}, {Back: true}}},
		{skew(0, 1, 1, 1), []api.Move{{}}},
		{skew(1), []api.Move{{}, {Cuts: 1, Turn: 1}, {Cuts: 2, Turn: 2}}},
		{plain(all(5, 2), 3), all4},
		{plain([]int{0, 1, 1}, 0), all4},
		{plain([]int{1, 0, 1, 0}, 0), all4},
		{barley(2), []api.Move{{}, {Back: true}, {Mirror: true}, {Mirror: true, Back: true}, {Cuts: 1, Turn: 2}, {Cuts: 1, Turn: 2, Back: true}, {Cuts: 1, Turn: 2, Mirror: true}, {Cuts: 1, Turn: 2, Mirror: true, Back: true}}},
	} {
		if l, e := Symmetries(x.p); e != api.OK || !slices.Equal(l, x.want) {
			t.Error(i, l, e)
		}
	}
}

// TestManySymmetries: P4.4, programs with the most steps and shifts, against trying.
func TestManySymmetries(t *testing.T) {
	long := with(all(api.MaxShifts, 0), 4, 1)
	wave := slices.Repeat([]int{0, 1, 2, 1}, 24)
	for i, x := range []struct {
		p    api.Program
		want int
	}{
		{plain(peak(96), long...), 192}, {plain(peak(96), 1), 192}, {plain(peak(96), 48), 8}, {plain(with(peak(96), 1, 4), long...), 96},
		{plain(wave, long...), 8}, {plain(wave, 2), 8}, {plain(wave, 1, 3), 4}, {plain(with(peak(96), 1, 4), 1, 2, 3, 5, 8, 13, 21, 34, 55, 89, 48, 9), 1},
		{plain(peak(96), 1, 95), 4}, {plain(peak(96), 0, 0, 1, 2), 32},
	} {
		v := viewOf(x.p, numbering{})
		want := v.movesTo(v, 3)
		l, e := Symmetries(x.p)
		if e != api.OK || !slices.Equal(l, want) || len(l) != x.want {
			t.Error(i, len(l), "want", len(want), x.want, e)
		}
	}
}

// TestSameExamples: P4.4, the chapter's examples; programs with different numbers of steps, with different periods and of different throws.
func TestSameExamples(t *testing.T) {
	half := flames(1)
	half.Rosette, half.Throw = []int{0, 6, 0, 0, 6, 0}, 1 // the same shapes, with half of the throw
	double := flames(1)
	double.Throw = 4
	high := flames(1)
	high.Rosette, high.Throw = []int{0, 10000, 0, 0, 10000, 0}, 16
	elsewhere := flames(1)
	elsewhere.Rosette, elsewhere.Start, elsewhere.Advance = []int{3, 0, 0, 3, 0, 0}, 7, -3
	flat, low := plain(all(6, 0), 1), plain(all(6, 0), 2)
	low.Throw = 9
	longer := flames(1)
	longer.Rosette = slices.Repeat([]int{0, 3, 0}, 3) // 9 steps, the same period
	twice := plain([]int{0, 3, 0, 0, 3, 1}, 1)
	for i, x := range []struct {
		p, q api.Program
		how  uint8
		want api.Move
		e    api.Errno
	}{
		{flames(1), flames(2), 3, api.Move{Back: true}, api.OK}, {flames(1), flames(2), api.MoveBack, api.Move{Back: true}, api.OK},
		{flames(1), flames(2), api.MoveMirror, api.Move{Turn: 2, Mirror: true}, api.OK}, {flames(1), flames(2), 0, api.Move{}, api.ErrNone},
		{flames(1), flames(1), 0, api.Move{}, api.OK}, {flames(1), flames(4), 0, api.Move{}, api.OK}, {flames(1), flames(1), 3, api.Move{}, api.OK},
		{barley(0, 2), barley(2, 0), 0, api.Move{Cuts: 1, Turn: 2}, api.OK}, {barley(0, 2), barley(2, 0), api.MoveBack, api.Move{Back: true}, api.OK},
		{barley(0, 2), barley(0, 2, 0, 2), 0, api.Move{}, api.OK}, {barley(0, 2), barley(2), 3, api.Move{}, api.ErrNone}, {barley(0, 2), barley(1), 3, api.Move{}, api.ErrNone},
		{flames(1), flames(1), 4, api.Move{}, api.ErrArg}, {flames(1), flames(1), 255, api.Move{}, api.ErrArg}, {flames(1), barley(1), 4, api.Move{}, api.ErrArg},
		{flames(1), barley(1), 3, api.Move{}, api.ErrNone}, {flames(1), longer, 3, api.Move{}, api.ErrNone}, {longer, flames(1), 3, api.Move{}, api.ErrNone},
		{flames(1), twice, 3, api.Move{}, api.ErrNone}, {twice, flames(1), 3, api.Move{}, api.ErrNone}, {flames(0), flat, 3, api.Move{}, api.ErrNone},
		{flames(1), half, 0, api.Move{}, api.OK}, {half, flames(1), 3, api.Move{}, api.OK}, {flames(1), double, 3, api.Move{}, api.ErrNone}, {flat, low, 0, api.Move{}, api.OK},
		{high, high, 0, api.Move{}, api.OK}, {high, flames(1), 3, api.Move{}, api.ErrNone},
		{flames(1), elsewhere, 0, api.Move{Turn: 2}, api.OK}, {elsewhere, flames(1), 0, api.Move{Turn: 1}, api.OK},
		{skew(1), skew(2), api.MoveMirror, api.Move{}, api.ErrNone}, {skew(1), skew(2), api.MoveBack, api.Move{Back: true}, api.OK},
	} {
		if m, e := Same(x.p, x.q, x.how); m != x.want || e != x.e {
			t.Error(i, m, e)
		}
	}
}

// mirroredProgram returns the program that cuts the mirrored shapes.
func mirroredProgram(p api.Program) api.Program {
	n := len(p.Rosette)
	q := p
	q.Rosette, q.Rubber, q.Shifts = slices.Clone(p.Rosette), slices.Clone(p.Rubber), slices.Clone(p.Shifts)
	for step, h := range p.Rosette {
		q.Rosette[mod(-step, n)] = h
	}
	slices.Reverse(q.Rubber)
	for i, s := range p.Shifts {
		q.Shifts[i] = mod(-s, n)
	}
	return q
}

// backwards returns the program whose cut j has the shape of the cut -j.
func backwards(p api.Program) api.Program {
	q := p
	q.Shifts = slices.Clone(p.Shifts)
	slices.Reverse(q.Shifts)
	for i, s := range q.Shifts {
		q.Shifts[i] = mod(-s, len(p.Rosette))
	}
	return q
}

// changed returns a program that is the same as another one, but for its beginning, and a mirror and the direction if that is allowed; or that is a little different from it.
func changed(r *rand.Rand, p api.Program, how uint8) api.Program {
	n, s, k := len(p.Rosette), r.Intn(len(p.Rosette)), r.Intn(len(p.Shifts))
	q := p
	q.Rosette = append(slices.Clone(p.Rosette[s:]), p.Rosette[:s]...)
	q.Shifts = append(slices.Clone(p.Shifts[k:]), p.Shifts[:k]...)
	q.Start, q.Advance = r.Intn(100), r.Intn(100)
	if how&1 != 0 && r.Intn(2) == 0 {
		q = mirroredProgram(q)
	}
	if how&2 != 0 && r.Intn(2) == 0 {
		q = backwards(q)
	}
	if most := slices.Max(p.Rosette); p.Throw%2 == 0 && most <= api.MaxRise/2 && len(p.Rubber) == 1 && r.Intn(2) == 0 {
		q.Throw, q.Rosette = p.Throw/2, slices.Clone(q.Rosette)
		for i := range q.Rosette {
			q.Rosette[i] *= 2
		}
	}
	switch r.Intn(6) {
	case 0:
		q.Shifts = with(q.Shifts, r.Intn(len(q.Shifts)), r.Intn(n))
	case 1:
		q.Rosette = with(q.Rosette, r.Intn(n), r.Intn(3))
	case 2:
		q.Throw = 1 + r.Intn(3)
	}
	return q
}

// TestRandomMoves: P4.4, for random small programs against trying all moves.
func TestRandomMoves(t *testing.T) {
	r := rand.New(rand.NewSource(46))
	same, none, many, single := 0, 0, 0, 0
	for i := range 4000 {
		n, how := numbering{}, uint8(i%4)
		p := randomProgram(r, 3+r.Intn(10), 4)
		q := changed(r, p, uint8(r.Intn(4)))
		v, w := viewOf(p, n), viewOf(q, n)
		want := v.movesTo(v, 3)
		l, e := Symmetries(p)
		if e != api.OK || !slices.Equal(l, want) {
			t.Fatal(p, l, e, "want", want)
		}
		if len(l) > 8 {
			many++
		} else if len(l) == 1 {
			single++
		}
		found := v.movesTo(w, how)
		m, e := Same(p, q, how)
		if len(found) == 0 {
			none++
			if e != api.ErrNone || m != (api.Move{}) {
				t.Fatal(p, q, how, m, e)
			}
		} else if same++; e != api.OK || m != found[0] {
			t.Fatal(p, q, how, m, e, "want", found)
		}
	}
	if same < 1000 || none < 1000 || many < 200 || single < 20 {
		t.Error("only", same, none, many, single)
	}
}

// after returns the move that a move makes after another one: m is made first.
func after(m, next api.Move, closes, period int) api.Move {
	sum := api.Move{Cuts: next.Cuts + m.Cuts, Turn: next.Turn + m.Turn, Mirror: m.Mirror != next.Mirror, Back: m.Back != next.Back}
	if next.Back {
		sum.Cuts = next.Cuts - m.Cuts
	}
	if next.Mirror {
		sum.Turn = next.Turn - m.Turn
	}
	sum.Cuts, sum.Turn = mod(sum.Cuts, closes), mod(sum.Turn, period)
	return sum
}

// TestGroup: P4.10, symmetries one after the other are symmetries again, each is undone by one of them, and one leaves all as it is; they are in order.
func TestGroup(t *testing.T) {
	r := rand.New(rand.NewSource(47))
	for range 120 {
		p := randomProgram(r, 24, api.MaxShifts)
		l, e := Symmetries(p)
		l = must(t, l, e)
		closes, e := Closes(p)
		closes = must(t, closes, e)
		period := periodOf(liftOf(p))
		if l[0] != (api.Move{}) {
			t.Fatal(p, l)
		}
		known := map[api.Move]bool{}
		for _, m := range l {
			known[m] = true
		}
		if len(known) != len(l) || !slices.IsSortedFunc(l, order) {
			t.Fatal(p, l)
		}
		for _, m := range l {
			undone := false
			for _, next := range l {
				sum := after(m, next, closes, period)
				undone = undone || sum == api.Move{}
				if !known[sum] {
					t.Fatal(p, m, next, sum)
				}
			}
			if !undone {
				t.Fatal(p, m)
			}
		}
	}
}

// order compares moves by Cuts, then by Turn, then by Mirror, then by Back, false first.
func order(a, b api.Move) int {
	number := func(is bool) int {
		if is {
			return 1
		}
		return 0
	}
	return slices.Compare([]int{a.Cuts, a.Turn, number(a.Mirror), number(a.Back)}, []int{b.Cuts, b.Turn, number(b.Mirror), number(b.Back)})
}

// TestTakenToEachOther: P4.10, to be taken to each other is the same from either side, and carries over, with the same how; such programs close after as many cuts, have the same motif but for the direction of its turn, and the same kind.
func TestTakenToEachOther(t *testing.T) {
	r := rand.New(rand.NewSource(48))
	taken := 0
	for range 1500 {
		how := uint8(r.Intn(4))
		p := randomProgram(r, 12, 6)
		q := changed(r, p, how)
		s := changed(r, q, how)
		_, there := Same(p, q, how)
		_, back := Same(q, p, how)
		_, on := Same(q, s, how)
		_, over := Same(p, s, how)
		if there != back || there == api.OK && on == api.OK && over != api.OK {
			t.Fatal(p, q, s, how, there, back, on, over)
		}
		if there != api.OK {
			continue
		}
		taken++
		closes, _ := Closes(p)
		others, _ := Closes(q)
		cuts, turn, _ := Motif(p)
		otherCuts, otherTurn, _ := Motif(q)
		kind, _ := Kind(p)
		otherKind, _ := Kind(q)
		if closes != others || cuts != otherCuts || turn != otherTurn && (turn+otherTurn)%periodOf(liftOf(p)) != 0 || kind != otherKind {
			t.Fatal(p, q, closes, others, cuts, turn, otherCuts, otherTurn, kind, otherKind)
		}
		if how == 0 && turn != otherTurn {
			t.Fatal(p, q, turn, otherTurn)
		}
	}
	if taken < 500 {
		t.Error("only", taken)
	}
}

// TestMovesOfChanges: P4.4, what is turned, begins elsewhere, is mirrored or goes backwards is known again where how allows it, in programs of all sizes.
func TestMovesOfChanges(t *testing.T) {
	r := rand.New(rand.NewSource(49))
	for range 100 {
		p := randomProgram(r, api.MaxSteps, api.MaxShifts)
		s, k := r.Intn(len(p.Rosette)), r.Intn(len(p.Shifts))
		q := p
		q.Rosette = append(slices.Clone(p.Rosette[s:]), p.Rosette[:s]...)
		q.Shifts = append(slices.Clone(p.Shifts[k:]), p.Shifts[:k]...)
		for how, x := range []api.Program{q, mirroredProgram(q), backwards(q), mirroredProgram(backwards(q))} {
			if m, e := Same(p, x, uint8(how)); e != api.OK || !takesCuts(t, p, x, m) {
				t.Fatal(p, x, how, m, e)
			}
		}
	}
}

// takesCuts reports whether a move takes some cuts of p to those of q, by their radii.
func takesCuts(t *testing.T, p, q api.Program, m api.Move) bool {
	t.Helper()
	for j := -15; j <= 15; j++ {
		k, sign := m.Cuts+j, 1
		if m.Back {
			k = m.Cuts - j
		}
		if m.Mirror {
			sign = -1
		}
		from, to := bare(t, p, j), bare(t, q, k)
		for step, h := range from {
			if to[mod(m.Turn+sign*step, len(to))] != h {
				return false
			}
		}
	}
	return true
}
