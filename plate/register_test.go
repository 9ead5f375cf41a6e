package plate_test

import (
	"math/rand"
	"slices"
	"testing"

	"barleycorn/api"
	"barleycorn/plate"
)

// at returns spots of pairs of coordinates.
func at(n ...int) []api.Spot {
	var l []api.Spot
	for pair := range slices.Chunk(n, 2) {
		l = append(l, api.Spot{X: pair[0], Y: pair[1]})
	}
	return l
}

// boxOf returns a box.
func boxOf(lowX, highX, lowY, highY int) api.Box {
	return api.Box{Low: api.Spot{X: lowX, Y: lowY}, High: api.Spot{X: highX, Y: highY}}
}

// registers reports an error unless Register gives a box, or an error and no box.
func registers(t *testing.T, what any, want, seen []api.Spot, tol int, wantBox api.Box, wantE api.Errno) {
	t.Helper()
	if box, e := plate.Register(want, seen, tol); box != wantBox || e != wantE {
		t.Error(what, want, seen, tol, "gives", box, e, "want", wantBox, wantE)
	}
}

// TestBoxes: P8.4, the chapter's example, one mark, boxes of just one shift, and none in X alone, in Y alone.
func TestBoxes(t *testing.T) {
	none := api.Box{}
	registers(t, "example", at(0, 0, 10, 0), at(3, 1, 14, 2), 1, boxOf(-4, -3, -2, -1), api.OK)
	registers(t, "the other way", at(3, 1, 14, 2), at(0, 0, 10, 0), 1, boxOf(3, 4, 1, 2), api.OK)
	registers(t, "one mark", at(5, -7), at(2, 9), 0, boxOf(3, 3, -16, -16), api.OK)
	registers(t, "one mark", at(5, -7), at(2, 9), 10, boxOf(-7, 13, -26, -6), api.OK)
	registers(t, "just one shift", at(0, 0, 0, 0), at(0, 3, 4, 1), 2, boxOf(-2, -2, -3, -1), api.OK)
	registers(t, "just one shift", at(0, 0, 0, 0), at(4, 1, 0, 5), 2, boxOf(-2, -2, -3, -3), api.OK)
	registers(t, "none in X", at(0, 0, 0, 0), at(0, 0, 5, 0), 2, none, api.ErrNone)
	registers(t, "none in Y", at(0, 0, 0, 0), at(0, 0, 0, -5), 2, none, api.ErrNone)
	registers(t, "none in X", at(0, 0, 0, 0), at(5, 4, 0, 0), 2, none, api.ErrNone)
	registers(t, "none in Y", at(0, 0, 0, 0), at(4, 5, 0, 0), 2, none, api.ErrNone)
	registers(t, "none in either", at(0, 0, 0, 0), at(0, 0, 5, 5), 2, none, api.ErrNone)
	registers(t, "none without tolerance", at(0, 0, 1, 1), at(0, 0, 1, 2), 0, none, api.ErrNone)
	registers(t, "in place", at(0, 0, 1, 1), at(0, 0, 1, 1), 0, none, api.OK)
	registers(t, "around", at(0, 0, 1, 1), at(0, 0, 1, 1), 3, boxOf(-3, 3, -3, 3), api.OK)
	registers(t, "three", at(0, 0, 10, 10, 20, 0), at(1, 0, 12, 11, 21, 3), 2, boxOf(-3, 0, -2, -1), api.OK)
}

// TestMarks: P8.4, no mark, MaxMarks and one more, too few and too many that are seen; ErrMany comes before ErrArg, that before ErrNone.
func TestMarks(t *testing.T) {
	far := at(20000, 20000)
	for n, isRight := range map[int]bool{0: false, 1: true, 2: true, 19: true, 20: true, 21: false, 1000: false} {
		box, e, unequal := boxOf(6, 8, 6, 8), api.OK, api.ErrArg
		if !isRight {
			box, e, unequal = api.Box{}, api.ErrMany, api.ErrMany
		}
		registers(t, n, repeat(n, api.Spot{X: 9, Y: 9}), repeat(n, api.Spot{X: 2, Y: 2}), 1, box, e)
		for _, seen := range []int{0, 1, n - 1, n + 1, 20, 21, 1000} {
			if seen >= 0 && seen != n {
				registers(t, seen, make([]api.Spot, n), make([]api.Spot, seen), 1, api.Box{}, unequal)
			}
		}
		registers(t, n, slices.Repeat(far, n), far, -1, api.Box{}, unequal)
		registers(t, n, slices.Repeat(far, n), nil, 1001, api.Box{}, unequal)
	}
	registers(t, "a mark too few", at(0, 0, 9, 9), at(0, 0), 0, api.Box{}, api.ErrArg)
	registers(t, "a mark too many", at(0, 0), at(0, 0, 9, 9), 0, api.Box{}, api.ErrArg)
	registers(t, "none is seen", at(0, 0), nil, 0, api.Box{}, api.ErrArg)
	registers(t, "none is wanted", nil, at(0, 0), 0, api.Box{}, api.ErrMany)
	registers(t, "no tolerance, no shift", at(0, 0, 0, 0), at(0, 0, 9999, 0), -1, api.Box{}, api.ErrArg)
	registers(t, "no spot, no shift", at(0, 0, 0, 0), at(0, 0, 10001, 0), 0, api.Box{}, api.ErrArg)
	twenty := make([]api.Spot, 20)
	for i := range twenty {
		seen := slices.Clone(twenty)
		seen[i] = api.Spot{X: 3, Y: -2}
		registers(t, i, twenty, seen, 2, boxOf(-2, -1, 0, 2), api.OK)
		registers(t, i, seen, twenty, 2, boxOf(1, 2, -2, 0), api.OK)
		registers(t, i, twenty, seen, 1, api.Box{}, api.ErrNone)
	}
}

// TestSpots: P8.4, spots at MaxSpot, just beyond it and far away, in each coordinate of each list.
func TestSpots(t *testing.T) {
	for n, isRight := range around(-10000, 10000) {
		for place := range 8 {
			want, seen := at(1, 2, 3, 4), at(5, 6, 7, 8)
			list := [][]api.Spot{want, seen}[place/4]
			if place%2 == 0 {
				list[place/2%2].X = n
			} else {
				list[place/2%2].Y = n
			}
			box, e := plate.Register(want, seen, 1000)
			if isRight && e == api.ErrArg || !isRight && (e != api.ErrArg || box != api.Box{}) {
				t.Error(want, seen, box, e)
			}
			if !isRight {
				registers(t, "both", want, seen, -1, api.Box{}, api.ErrArg)
			}
		}
	}
	registers(t, "corners", at(10000, -10000), at(-10000, 10000), 1000, boxOf(19000, 21000, -21000, -19000), api.OK)
	registers(t, "corners", at(-10000, -10000, 10000, 10000), at(-10000, -10000, 10000, 10000), 0, api.Box{}, api.OK)
}

// TestTolerances: P8.4, tol at 0, MaxTol, just beyond and far away.
func TestTolerances(t *testing.T) {
	for tol, isRight := range around(0, 1000) {
		if isRight {
			registers(t, tol, at(0, 0), at(1, 2), tol, boxOf(-1-tol, -1+tol, -2-tol, -2+tol), api.OK)
			registers(t, tol, at(0, 0, 0, 0), at(0, 0, 2*tol, 0), tol, boxOf(-tol, -tol, -tol, tol), api.OK)
			registers(t, tol, at(0, 0, 0, 0), at(0, 0, 2*tol+1, 0), tol, api.Box{}, api.ErrNone)
			registers(t, tol, at(0, 0, 0, 0), at(0, 0, 0, -2*tol), tol, boxOf(-tol, tol, tol, tol), api.OK)
			registers(t, tol, at(0, 0, 0, 0), at(0, 0, 0, -2*tol-1), tol, api.Box{}, api.ErrNone)
			continue
		}
		registers(t, tol, at(0, 0), at(1, 2), tol, api.Box{}, api.ErrArg)
		registers(t, tol, nil, nil, tol, api.Box{}, api.ErrMany)
	}
}

// isNear reports whether two spots differ by at most the tolerance in both coordinates.
func isNear(a, b api.Spot, tol int) bool {
	return max(a.X-b.X, b.X-a.X, a.Y-b.Y, b.Y-a.Y) <= tol
}

// brings reports whether a shift brings marks into register.
func brings(want, seen []api.Spot, tol, x, y int) bool {
	for i, s := range seen {
		if !isNear(want[i], api.Spot{X: s.X + x, Y: s.Y + y}, tol) {
			return false
		}
	}
	return true
}

// allShifts returns all shifts, up to 12 in each coordinate, that bring marks into register.
func allShifts(want, seen []api.Spot, tol int) []api.Spot {
	var l []api.Spot
	for x := -12; x <= 12; x++ {
		for y := -12; y <= 12; y++ {
			if brings(want, seen, tol, x, y) {
				l = append(l, api.Spot{X: x, Y: y})
			}
		}
	}
	return l
}

// TestInTheBox: P8.4 and P8.10, a shift brings marks into register just if it is in the box, in both coordinates; with a greater tolerance the box is no smaller.
func TestInTheBox(t *testing.T) {
	r := rand.New(rand.NewSource(96))
	found := map[bool]int{}
	for range 1000 {
		var want, seen []api.Spot
		byX, byY, off := r.Intn(5)-2, r.Intn(5)-2, 1+r.Intn(4)
		for range 1 + r.Intn(6) {
			mark := api.Spot{X: r.Intn(21) - 10, Y: r.Intn(21) - 10}
			want = append(want, mark)
			seen = append(seen, api.Spot{X: mark.X + byX + r.Intn(off), Y: mark.Y + byY + r.Intn(off)})
		}
		before := boxOf(1, 0, 1, 0)
		for tol := range 5 {
			box, e := plate.Register(want, seen, tol)
			l := allShifts(want, seen, tol)
			found[e == api.OK]++
			if e != errorUnless(len(l) > 0, api.ErrNone) {
				t.Fatal(want, seen, tol, box, e, l)
			}
			if e != api.OK {
				registers(t, "none", want, seen, tol, api.Box{}, api.ErrNone)
				continue
			}
			var inside []api.Spot
			for x := box.Low.X; x <= box.High.X; x++ {
				for y := box.Low.Y; y <= box.High.Y; y++ {
					inside = append(inside, api.Spot{X: x, Y: y})
				}
			}
			is(t, "inside", inside, e, l...)
			if before.Low.X <= before.High.X && (before.Low.X < box.Low.X || before.Low.Y < box.Low.Y || before.High.X > box.High.X || before.High.Y > box.High.Y) {
				t.Error(want, seen, tol, before, box)
			}
			before = box
		}
	}
	if found[true] < 500 || found[false] < 500 {
		t.Error("only", found)
	}
}
