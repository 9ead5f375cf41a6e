package plate_test

import (
	"math/rand"
	"slices"
	"testing"

	"barleycorn/api"
	"barleycorn/plate"
)

// sheetOf returns a sheet.
func sheetOf(cols, rows, weight, clear, lean int) api.Sheet {
	return api.Sheet{Cols: cols, Rows: rows, Weight: weight, Clear: clear, Lean: lean}
}

// dots returns dots that are ink where texts have an x.
func dots(rows ...string) []bool {
	var l []bool
	for _, row := range rows {
		for _, c := range row {
			l = append(l, c == 'x')
		}
	}
	return l
}

// flats returns lines of n columns that do not lean.
func flats(n int, edges ...int) api.Band {
	var b api.Band
	for _, edge := range edges {
		b = append(b, repeat(n, edge))
	}
	return b
}

// isInk reports whether a dot is ink of a proof that is not mirrored, word by word as the chapter has it.
func isInk(s api.Sheet, b api.Band, grow, row, col int) bool {
	for _, l := range b {
		for i := range s.Weight {
			if near := l[col] + i; row-near <= grow && near-row <= grow {
				return true
			}
		}
	}
	return false
}

// proofOf returns the dots of a proof.
func proofOf(s api.Sheet, b api.Band, grow int, mirror bool) []bool {
	var l []bool
	for row := range s.Rows {
		for col := range s.Cols {
			if mirror {
				col = s.Cols - 1 - col
			}
			l = append(l, isInk(s, b, grow, row, col))
		}
	}
	return l
}

// turnedOver returns dots with the columns in the other order.
func turnedOver(cols int, l []bool) []bool {
	l = slices.Clone(l)
	for i := range l {
		if col := i % cols; 2*col < cols-1 {
			other := i - col + cols - 1 - col
			l[i], l[other] = l[other], l[i]
		}
	}
	return l
}

// gapOf returns the gap of a band with at least two lines.
func gapOf(s api.Sheet, b api.Band) int {
	least := greatestInt
	for i := 1; i < len(b); i++ {
		for col := range s.Cols {
			paper := 0
			for row := b[i-1][col] + s.Weight; row < b[i][col]; row++ {
				paper++
			}
			least = min(least, paper)
		}
	}
	return least
}

// randomLine returns a line of a sheet that has any.
func randomLine(r *rand.Rand, s api.Sheet) []int {
	l := []int{r.Intn(s.Rows - s.Weight + 1)}
	for i := range s.Cols - 1 {
		edge := l[i] + r.Intn(2*s.Lean+1) - s.Lean
		l = append(l, max(0, min(s.Rows-s.Weight, edge)))
	}
	return l
}

// randomBand returns a sheet and a band of at least so many lines. Wherever a line is too near to the one above it, it goes along it as near as may be.
func randomBand(r *rand.Rand, least int) (api.Sheet, api.Band) {
	for {
		s := sheetOf(1+r.Intn([]int{3, 8, 40}[r.Intn(3)]), 1+r.Intn([]int{9, 60, 60}[r.Intn(3)]), 1+r.Intn([]int{2, 8}[r.Intn(2)]), r.Intn([]int{1, 4, 21}[r.Intn(3)]), r.Intn([]int{1, 3, 9}[r.Intn(3)]))
		var b api.Band
		for lines := r.Intn(13); len(b) < lines && s.Weight <= s.Rows; {
			l := randomLine(r, s)
			for c := range l {
				l[c] = l[c] * (len(b) + 1) / lines
				if len(b) > 0 {
					l[c] = max(l[c], b[len(b)-1][c]+s.Weight+s.Clear)
				}
			}
			if slices.Max(l) > s.Rows-s.Weight {
				break
			}
			b = append(b, l)
		}
		if len(b) >= least {
			return s, b
		}
	}
}

// leaning is a sheet of the examples here, and its lines, of which the gap is 3, 2 and 3 in the columns.
func leaning() (api.Sheet, api.Band) {
	return sheetOf(3, 9, 1, 2, 1), api.Band{{1, 2, 2}, {5, 5, 6}}
}

// TestProofs: P8.5, some growths, at the sheet's edges too, mirrored or not.
func TestProofs(t *testing.T) {
	s, b := leaning()
	for _, x := range []struct {
		grow int
		want []bool
	}{
		{0, dots("...", "x..", ".xx", "...", "...", "xx.", "..x", "...", "...")},
		{1, dots("x..", "xxx", "xxx", ".xx", "xx.", "xxx", "xxx", "..x", "...")},
		{2, dots("xxx", "xxx", "xxx", "xxx", "xxx", "xxx", "xxx", "xxx", "..x")},
		{3, dots("xxx", "xxx", "xxx", "xxx", "xxx", "xxx", "xxx", "xxx", "xxx")},
		{20, repeat(27, true)},
	} {
		l, e := plate.Proof(s, b, x.grow, false)
		is(t, x.grow, l, e, x.want...)
		l, e = plate.Proof(s, b, x.grow, true)
		is(t, x.grow, l, e, turnedOver(3, x.want)...)
	}
	l, e := plate.Proof(s, b, 0, true)
	is(t, "mirrored", l, e, dots("...", "..x", "xx.", "...", "...", ".xx", "x..", "...", "...")...)
	edges := sheetOf(2, 60, 8, 20, 0)
	l, e = plate.Proof(edges, flats(2, 0, 52), 20, false)
	is(t, "edges", l, e, slices.Concat(repeat(56, true), repeat(8, false), repeat(56, true))...)
	l, e = plate.Proof(edges, flats(2, 0, 52), 0, false)
	is(t, "edges", l, e, slices.Concat(repeat(16, true), repeat(88, false), repeat(16, true))...)
	l, e = plate.Proof(sheetOf(1, 1, 1, 0, 0), flats(1, 0), 20, true)
	is(t, "one dot", l, e, true)
	for _, mirror := range []bool{false, true} {
		for _, grow := range []int{0, 20} {
			l, e = plate.Proof(s, nil, grow, mirror)
			is(t, "no line", l, e, make([]bool, 27)...)
			l, e = plate.Proof(sheetOf(3, 5, 8, 0, 0), api.Band{}, grow, mirror)
			is(t, "no line fits", l, e, make([]bool, 15)...)
		}
	}
}

// TestExampleOfHouse: P8.5, the image of a print in the chapter of the house is a proof that is mirrored.
func TestExampleOfHouse(t *testing.T) {
	l, e := plate.Proof(sheetOf(2, 8, 1, 1, 1), api.Band{{0, 1}, {4, 4}}, 0, true)
	is(t, "image", l, e, dots(".x", "x.", "..", "..", "xx", "..", "..", "..")...)
}

// TestProofErrors: P8.5, lathe.Check's errors before ErrArg; grow at 0, MaxGrow, just beyond and far away.
func TestProofErrors(t *testing.T) {
	s, b := leaning()
	for grow, isRight := range around(0, 20) {
		for _, mirror := range []bool{false, true} {
			l, e := plate.Proof(sheetOf(3, 9, 1, 2, 9), b, grow, mirror)
			fails(t, grow, l, e, api.ErrSheet)
			l, e = plate.Proof(api.Sheet{}, nil, grow, mirror)
			fails(t, grow, l, e, api.ErrSheet)
			for _, wrong := range []api.Band{{b[1], b[0]}, {b[0], b[0]}, {b[0][:2]}, {nil}, make(api.Band, 13), {{0, 2, 2}}, {{9, 9, 9}}} {
				l, e = plate.Proof(s, wrong, grow, mirror)
				fails(t, grow, l, e, api.ErrInk)
			}
			l, e = plate.Proof(s, b, grow, mirror)
			if !isRight {
				fails(t, grow, l, e, api.ErrArg)
				l, e = plate.Proof(s, nil, grow, mirror)
				fails(t, grow, l, e, api.ErrArg)
				continue
			}
			is(t, grow, l, e, proofOf(s, b, grow, mirror)...)
		}
	}
}

// TestMoreInk: P8.5 and P8.11, proofs of any bands against the chapter's definition: one that is mirrored twice is as before, and with more growth there is no less ink.
func TestMoreInk(t *testing.T) {
	r := rand.New(rand.NewSource(97))
	for range 150 {
		s, b := randomBand(r, 0)
		before := make([]bool, s.Cols*s.Rows)
		for grow := range 21 {
			l, e := plate.Proof(s, b, grow, false)
			is(t, grow, l, e, proofOf(s, b, grow, false)...)
			over, e := plate.Proof(s, b, grow, true)
			is(t, grow, over, e, proofOf(s, b, grow, true)...)
			is(t, "mirrored twice", turnedOver(s.Cols, over), e, l...)
			for i, was := range before {
				if was && !l[i] {
					t.Fatal(s, b, grow, i)
				}
			}
			before = l
		}
	}
}

// hasGap reports an error unless a band has a gap.
func hasGap(t *testing.T, what any, s api.Sheet, b api.Band, want int) {
	t.Helper()
	n, e := plate.Gap(s, b)
	isNumber(t, what, n, e, want, api.OK)
}

// TestGaps: P8.5, of lines that touch, and with the least gap in the first column, in the last one and in one between, of the first two lines, of the last two and of two between.
func TestGaps(t *testing.T) {
	s := sheetOf(5, 60, 2, 0, 2)
	hasGap(t, "touch", s, flats(5, 0, 2), 0)
	hasGap(t, "one dot", s, flats(5, 0, 3), 1)
	hasGap(t, "the farthest", sheetOf(1, 60, 1, 20, 0), flats(1, 0, 59), 58)
	hasGap(t, "Clear", sheetOf(1, 60, 8, 20, 0), flats(1, 0, 28), 20)
	for lines := 2; lines <= 6; lines++ {
		for low := range lines - 1 {
			for col := range 5 {
				b := flats(5, 0, 8, 16, 24, 32, 40)[:lines]
				hasGap(t, lines, s, b, 6)
				b[low][col] += 2
				hasGap(t, []int{lines, low, col}, s, b, 4)
				b[low+1][col]--
				hasGap(t, []int{lines, low, col}, s, b, 3)
			}
		}
	}
	hasGap(t, "far apart at the end", s, api.Band{{0, 0, 0, 0, 0}, {2, 4, 6, 8, 10}}, 0)
	hasGap(t, "far apart in the beginning", s, api.Band{{0, 0, 0, 0, 0}, {10, 8, 6, 4, 3}}, 1)
	hasGap(t, "12 lines", s, flats(5, 0, 5, 10, 15, 20, 25, 30, 35, 40, 45, 50, 54), 2)
	r := rand.New(rand.NewSource(98))
	for range 2000 {
		s, b := randomBand(r, 2)
		hasGap(t, "random", s, b, gapOf(s, b))
		l := slices.Clone(b)
		for i, line := range l {
			l[i] = slices.Clone(line)
			slices.Reverse(l[i])
		}
		hasGap(t, "turned over", s, l, gapOf(s, b))
	}
}

// TestGapErrors: P8.5, Gap of no line and of one, after lathe.Check's errors, which are Lasts' errors too, before its own.
func TestGapErrors(t *testing.T) {
	s, b := leaning()
	for _, x := range []struct {
		s api.Sheet
		b api.Band
		e api.Errno
	}{
		{sheetOf(3, 9, 1, 2, 9), b, api.ErrSheet}, {api.Sheet{}, nil, api.ErrSheet}, {sheetOf(3, 9, 0, 2, 1), b[:1], api.ErrSheet}, {s, api.Band{b[1], b[0]}, api.ErrInk}, {s, api.Band{b[0], b[0]}, api.ErrInk},
		{s, api.Band{b[0][:2]}, api.ErrInk}, {s, api.Band{nil}, api.ErrInk}, {s, make(api.Band, 13), api.ErrInk}, {s, nil, api.ErrNone}, {s, api.Band{}, api.ErrNone}, {s, b[:1], api.ErrNone}, {s, b[1:], api.ErrNone},
	} {
		n, e := plate.Gap(x.s, x.b)
		isNumber(t, x, n, e, 0, x.e)
		for per := range around(1, 1000) {
			n, e := plate.Lasts(x.s, x.b, per)
			isNumber(t, x, n, e, 0, x.e)
		}
	}
}

// TestLasts: P8.5, odd gaps and even ones, per at 1, MaxPer, just beyond and far away, and lines that touch from the beginning on.
func TestLasts(t *testing.T) {
	s := sheetOf(2, 60, 1, 0, 0)
	for gap, growths := range []int{0, 1, 1, 2, 2, 3, 3, 4, 4, 5, 5, 6} {
		b := flats(2, 3, 4+gap, 30)
		for per, isRight := range around(1, 1000) {
			want, wantE := growths*per-1, api.OK
			if !isRight {
				want, wantE = 0, api.ErrArg
			} else if gap == 0 {
				want, wantE = 0, api.ErrNone
			}
			n, e := plate.Lasts(s, b, per)
			isNumber(t, []int{gap, per}, n, e, want, wantE)
		}
	}
	n, e := plate.Lasts(s, flats(2, 0, 4), 100)
	isNumber(t, "the chapter's example", n, e, 199, api.OK)
	n, e = plate.Lasts(s, flats(2, 0, 3), 100)
	isNumber(t, "a gap of 2", n, e, 99, api.OK)
	n, e = plate.Lasts(s, flats(2, 0, 59), 1000)
	isNumber(t, "the farthest", n, e, 28999, api.OK)
	n, e = plate.Lasts(s, flats(2, 0, 58), 7)
	isNumber(t, "an odd gap", n, e, 202, api.OK)
	n, e = plate.Lasts(s, flats(2, 0, 42), 3)
	isNumber(t, "a growth beyond MaxGrow", n, e, 62, api.OK)
}

// touch reports whether two lines of a band touch in a proof: then there is a column with fewer strokes of ink than the band has lines.
func touch(t *testing.T, s api.Sheet, b api.Band, grow int) bool {
	t.Helper()
	l, e := plate.Proof(s, b, grow, false)
	if e != api.OK {
		t.Fatal(e)
	}
	for col := range s.Cols {
		strokes, was := 0, false
		for row := range s.Rows {
			is := l[row*s.Cols+col]
			if is && !was {
				strokes++
			}
			was = is
		}
		if strokes < len(b) {
			return true
		}
	}
	return false
}

// TestUntilTheyTouch: P8.11, the proof just at the number of impressions that Lasts says, and one impression after it.
func TestUntilTheyTouch(t *testing.T) {
	r := rand.New(rand.NewSource(99))
	odd, even, never := 0, 0, 0
	for range 3000 {
		s, b := randomBand(r, 2)
		per := 1 + r.Intn([]int{1, 5, 1000}[r.Intn(3)])
		gap := gapOf(s, b)
		n, e := plate.Lasts(s, b, per)
		switch {
		case gap == 0:
			never++
			isNumber(t, b, n, e, 0, api.ErrNone)
			if !touch(t, s, b, 0) {
				t.Error(s, b, "do not touch")
			}
			continue
		case e != api.OK:
			t.Error(s, b, e)
		case (n+1)/per > 20:
			continue // No proof has so much growth.
		case gap%2 == 0:
			even++
		default:
			odd++
		}
		if touch(t, s, b, n/per) || !touch(t, s, b, (n+1)/per) {
			t.Error(s, b, per, "last", n, "with the gap", gap)
		}
	}
	if odd < 300 || even < 300 || never < 300 {
		t.Error("only", odd, even, never)
	}
}
