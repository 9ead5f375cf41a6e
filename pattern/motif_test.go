package pattern

import (
	"math/rand"
	"slices"
	"testing"

	"barleycorn/api"
)

// TestMotifExamples: P4.3, the chapter's examples, each kind of program, and patterns that close after one cut and after the most that there may be.
func TestMotifExamples(t *testing.T) {
	long := with(all(api.MaxShifts, 0), 4, 1)
	felt := flames(1)
	felt.Rosette, felt.Rubber = []int{6, 0, 6, 0, 6, 1}, []int{0, 0, 0} // the rubber feels no hole: the rosette's period is 6, that of the lift 1
	for i, x := range []struct {
		p                       api.Program
		closes, cuts, turn, gap int
		kind                    uint8
	}{
		{flames(1), 3, 1, 1, 4, api.PatternFlames}, {flames(4), 3, 1, 1, 4, api.PatternFlames}, {flames(2), 3, 1, 2, 4, api.PatternFlames},
		{flames(0), 1, 1, 0, 10, api.PatternRays}, {flames(3), 1, 1, 0, 10, api.PatternRays}, {flames(3, 0, 0), 1, 1, 0, 10, api.PatternRays},
		{felt, 1, 1, 0, 10, api.PatternRings}, {plain(all(3, 7), 2, 1), 1, 1, 0, 3, api.PatternRings}, {plain(all(96, 0), 95), 1, 1, 0, 3, api.PatternRings},
		{plain(all(96, 0), all(12, 1)...), 1, 1, 0, 3, api.PatternRings},
		{barley(2), 2, 1, 2, -2, api.PatternBarley}, {barley(2, 2, 2), 2, 1, 2, -2, api.PatternBarley}, {plain(peak(96), 48), 2, 1, 48, 0, api.PatternBarley},
		{barley(1), 4, 1, 1, -1, api.PatternFlames}, {barley(3, 3), 4, 1, 3, -1, api.PatternFlames},
		{barley(0, 2), 4, 2, 2, -2, api.PatternBasket}, {barley(0, 2, 0, 2), 4, 2, 2, -2, api.PatternBasket}, {barley(2, 0), 4, 2, 2, -2, api.PatternBasket},
		{barley(0, 0, 2), 6, 3, 2, -2, api.PatternBasket}, {plain([]int{0, 1, 0, 1, 0, 1}, 2, 1, 4), 6, 3, 1, 2, api.PatternBasket},
		{plain(peak(96), with(all(12, 0), 7, 48)...), 24, 12, 48, 0, api.PatternBasket},
		{barley(1, 1, 0), 6, 3, 2, -1, api.PatternAnother}, {barley(1, 3), 2, 2, 0, -1, api.PatternAnother}, {barley(0, 1), 8, 2, 1, -1, api.PatternAnother},
		{barley(2, 2, 2, 0), 8, 4, 2, -2, api.PatternAnother}, {barley(1, 1, 3, 3), 4, 4, 0, -1, api.PatternAnother}, {barley(2, 2, 0, 0), 4, 4, 0, -2, api.PatternAnother},
		{plain(peak(96), long...), 1152, 12, 1, 0, api.PatternAnother}, {plain(peak(96), with(long, 5, 95)...), 12, 12, 0, 0, api.PatternAnother}, {plain(peak(96), 95), 96, 1, 95, 0, api.PatternFlames},
		{plain([]int{0, 0, 9}, 1, 1, 1, 1, 1, 1, 1, 1, 1, 1, 1, 2), 36, 12, 1, -6, api.PatternAnother},
	} {
		closes, e := Closes(x.p)
		cuts, turn, f := Motif(x.p)
		kind, g := Kind(x.p)
		gap, h := Gap(x.p)
		if e != api.OK || f != api.OK || g != api.OK || h != api.OK || closes != x.closes || cuts != x.cuts || turn != x.turn || kind != x.kind || gap != x.gap {
			t.Error(i, closes, cuts, turn, kind, gap)
		}
	}
}

// kindOf returns the kind of a program, row by row as the chapter has them.
func kindOf(p api.Program) uint8 {
	n := periodOf(liftOf(p))
	m, t := motifOf(p)
	others := 0 // of the first m shifts, those that are no multiples of n
	for i := range m {
		if p.Shifts[i%len(p.Shifts)]%n != 0 {
			others++
		}
	}
	rows := []bool{n == 1, n > 1 && m == 1 && t == 0, n > 1 && m == 1 && 2*t == n, n > 1 && m == 1 && t != 0 && 2*t != n, n > 1 && m > 1 && 2*t == n && others == 1}
	return uint8(1 + slices.Index(append(rows, true), true))
}

// gapOf returns the gap of a program: of all cuts, until they come again, and all steps.
func gapOf(p api.Program) int {
	lift := liftOf(p)
	var differences []int
	this := shapeOf(p, lift, 0)
	for j := range len(p.Shifts) * len(lift) {
		next := shapeOf(p, lift, phaseOf(p, j+1))
		for step := range lift {
			differences = append(differences, p.Advance+next[step]-this[step])
		}
		this = next
	}
	return slices.Min(differences)
}

// TestRandomMotifs: P4.3, P4.9, for random programs against trying; the motif's cuts divide the number after which the pattern closes, and its turn, so many times, is a multiple of the period.
func TestRandomMotifs(t *testing.T) {
	r := rand.New(rand.NewSource(43))
	kinds := map[uint8]int{}
	for range 4000 {
		p := randomProgram(r, 3+r.Intn(14), 6)
		wantCuts, wantTurn := motifOf(p)
		closes, e := Closes(p)
		cuts, turn, f := Motif(p)
		if e != api.OK || f != api.OK || closes != closesOf(p) || cuts != wantCuts || turn != wantTurn {
			t.Fatal(p, closes, cuts, turn, "want", closesOf(p), wantCuts, wantTurn)
		}
		if closes%cuts != 0 || closes/cuts*turn%periodOf(liftOf(p)) != 0 {
			t.Fatal(p, closes, cuts, turn)
		}
		kind, e := Kind(p)
		if e != api.OK || kind != kindOf(p) {
			t.Fatal(p, kind, "want", kindOf(p))
		}
		kinds[kind]++
		if gap, e := Gap(p); e != api.OK || gap != gapOf(p) {
			t.Fatal(p, gap, "want", gapOf(p))
		}
	}
	for kind := api.PatternRings; kind <= api.PatternAnother; kind++ {
		if kinds[kind] < 50 {
			t.Error("only", kinds[kind], "of the kind", kind)
		}
	}
}

// bare returns the radii of a cut without what is the same at all steps.
func bare(t *testing.T, p api.Program, j int) []int {
	t.Helper()
	l, e := Cut(p, j)
	l = must(t, l, e)
	for step := range l {
		l[step] -= p.Start + j*p.Advance
	}
	return l
}

// TestClosing: P4.9, after exactly the number of cuts that Closes returns, and its multiples, all shapes are again as they were, also below 0; and the motif is seen in the cuts of programs of all sizes.
func TestClosing(t *testing.T) {
	r := rand.New(rand.NewSource(44))
	for range 60 {
		p := randomProgram(r, api.MaxSteps, api.MaxShifts)
		closes, e := Closes(p)
		closes = must(t, closes, e)
		if closes != closesOf(p) {
			t.Fatal(p, closes, "want", closesOf(p))
		}
		for range 20 {
			j, times := r.Intn(2000)-1000, r.Intn(3)
			if !slices.Equal(bare(t, p, j), bare(t, p, j+times*closes)) {
				t.Fatal(p, closes, j, times)
			}
		}
		cuts, turn, e := Motif(p)
		for j := range 2 * len(p.Shifts) {
			shape := bare(t, p, j-len(p.Shifts))
			turned := append(slices.Clone(shape[len(shape)-turn:]), shape[:len(shape)-turn]...)
			if e != api.OK || !slices.Equal(turned, bare(t, p, j-len(p.Shifts)+cuts)) {
				t.Fatal(p, cuts, turn, j)
			}
		}
	}
}

// TestAnotherBeginning: P4.11, turning all shifts round changes neither the gap, nor the kind, nor after how many cuts the pattern closes; the gap is that of the cuts.
func TestAnotherBeginning(t *testing.T) {
	r := rand.New(rand.NewSource(45))
	for range 200 {
		p := randomProgram(r, api.MaxSteps, api.MaxShifts)
		q, k := p, r.Intn(len(p.Shifts))
		q.Shifts = append(slices.Clone(p.Shifts[k:]), p.Shifts[:k]...)
		gap, e1 := Gap(p)
		turned, e2 := Gap(q)
		kind, e3 := Kind(p)
		other, e4 := Kind(q)
		closes, e5 := Closes(p)
		again, e6 := Closes(q)
		if gap != turned || kind != other || closes != again || max(e1, e2, e3, e4, e5, e6) != api.OK {
			t.Fatal(p, k, gap, turned, kind, other, closes, again)
		}
		if gap != gapOf(p) {
			t.Fatal(p, gap, gapOf(p))
		}
	}
}
