package lathe_test

import (
	"math/rand"
	"slices"
	"testing"

	"barleycorn/api"
	"barleycorn/lathe"
)

// dotsOf returns the dots that texts show, row by row: an x is ink.
func dotsOf(texts ...string) []bool { return slices.Concat(yes(texts...)...) }

// TestInk: P7.2, no line, one, one at the lowest edge, lines that lean, and lines that touch where Clear is 0; row by row.
func TestInk(t *testing.T) {
	s := sheetOf(3, 6, 2, 0, 1)
	for _, x := range []struct {
		s    api.Sheet
		b    api.Band
		want []bool
	}{
		{s, nil, all(18, false)},
		{s, api.Band{}, all(18, false)},
		{s, flats(3, 0), dotsOf("xxx", "xxx", "...", "...", "...", "...")},
		{s, flats(3, 4), dotsOf("...", "...", "...", "...", "xxx", "xxx")},
		{s, api.Band{{0, 1, 2}}, dotsOf("x..", "xx.", ".xx", "..x", "...", "...")},
		{s, api.Band{{2, 1, 2}}, dotsOf("...", ".x.", "xxx", "x.x", "...", "...")},
		{s, api.Band{{0, 1, 0}, {3, 3, 4}}, dotsOf("x.x", "xxx", ".x.", "xx.", "xxx", "..x")},
		{s, flats(3, 0, 2, 4), all(18, true)},
		{s, api.Band{{0, 1, 1}, {3, 3, 4}}, dotsOf("x..", "xxx", ".xx", "xx.", "xxx", "..x")},
		{sheetOf(1, 5, 3, 0, 0), flats(1, 1), []bool{false, true, true, true, false}},
		{sheetOf(1, 5, 1, 1, 0), flats(1, 0, 2, 4), []bool{true, false, true, false, true}},
		{sheetOf(1, 1, 1, 0, 0), flats(1, 0), []bool{true}},
		{sheetOf(4, 1, 1, 0, 0), flats(4, 0), all(4, true)},
		{sheetOf(4, 1, 1, 0, 0), nil, all(4, false)},
		{sheetOf(4, 8, 8, 20, 8), flats(4, 0), all(32, true)},
	} {
		l, e := lathe.Ink(x.s, x.b)
		is(t, x.b, l, e, x.want...)
	}
	l, e := lathe.Ink(sheetOf(40, 60, 5, 0, 8), flats(40, steps(12, 0, 5)...))
	is(t, "full", l, e, all(2400, true)...)
}

// TestInkErrors: P7.2, ErrInk for lists that are no lines, too many lines, and lines that come too near to each other.
func TestInkErrors(t *testing.T) {
	s := sheetOf(3, 6, 2, 1, 1)
	for _, b := range []api.Band{{nil}, {all(2, 0)}, {all(4, 0)}, {all(3, -1)}, {all(3, 5)}, {{0, 2, 2}}, flats(3, 0, 2), flats(3, 3, 0), make(api.Band, 13), {{0, 1, 1}, {3, 3, 4}}} {
		l, e := lathe.Ink(s, b)
		fails(t, b, l, e, api.ErrInk)
	}
}

// TestRandomInk: P7.2 and P7.6, random bands: just the dots of the lines are ink, and between any two lines there is paper, Clear dots at least.
func TestRandomInk(t *testing.T) {
	r := rand.New(rand.NewSource(72))
	for range 2000 {
		s := randomSheet(r)
		b := randomBand(r, s)
		l, e := lathe.Ink(s, b)
		is(t, b, l, e, inkOf(s, b)...)
		for c := range s.Cols {
			paper := s.Clear // above the first line there may be less
			ink := 0
			for row := range s.Rows {
				if !l[row*s.Cols+c] {
					paper++
					continue
				}
				if ink%s.Weight == 0 && paper < s.Clear {
					t.Fatal(s, b, c, row, paper)
				}
				ink++
				paper = 0
			}
			if ink != s.Weight*len(b) {
				t.Fatal(s, b, c, ink)
			}
		}
	}
}

// TestSeenExamples: P7.5, the chapter's examples, and each row that the screen can show.
func TestSeenExamples(t *testing.T) {
	b := api.Band{{1, 1, 3, 5, 3, 1}, all(6, 9)}
	for by, want := range [][][]bool{
		yes("xx...x", "xxxxxx"), yes("xx...x", "xxxxxx"), yes("..x.x.", "......"), yes("..x.x.", "......"),
		yes("...x..", "......"), yes("...x..", "......"), yes("......", "......"), yes("......", "......"),
	} {
		l, e := lathe.Seen(example, b, exampleScreen, by)
		are(t, by, l, e, want...)
	}
}

// TestSeenRange: P7.5, by at 0, at Period - 1 and just beyond, and far away, for the least and the greatest Period.
func TestSeenRange(t *testing.T) {
	for period := 2; period <= 16; period++ {
		for by, want := range around(0, period-1) {
			l, e := lathe.Seen(sheetOf(2, 60, 1, 0, 0), nil, screenOf(period, 1), by)
			ends(t, by, l, e, errorUnless(want, api.ErrArg))
		}
	}
	for row := range 32 { // each row of the sheet, in its line of the screen
		s := sheetOf(2, 32, 1, 0, 0)
		for by := range 16 {
			l, e := lathe.Seen(s, flats(2, row), screenOf(16, 0), by)
			are(t, row, l, e, all(2, row == by), all(2, row == by+16))
		}
	}
}

// TestSeenLines: P7.5, a screen with no line, with more lines than the band and with fewer, and at most MaxLines; a screen without room shows what is there.
func TestSeenLines(t *testing.T) {
	s := sheetOf(2, 30, 3, 2, 1)
	l, e := lathe.Seen(s, flats(2, 0, 27), screenOf(16, 15), 0)
	are(t, "no line", l, e)
	l, e = lathe.Seen(s, nil, screenOf(10, 1), 9)
	are(t, "no line of the band", l, e, all(2, false), all(2, false))
	l, e = lathe.Seen(s, flats(2, 4), screenOf(7, 1), 4)
	are(t, "one line of the band", l, e, all(2, true), all(2, false), all(2, false), all(2, false))
	l, e = lathe.Seen(s, flats(2, 0, 5, 10, 15, 20, 25), screenOf(15, 0), 1)
	are(t, "six lines of the band", l, e, all(2, true), all(2, true))
	l, e = lathe.Seen(s, flats(2, 0, 5, 10, 15, 20, 25), screenOf(2, 1), 1)
	are(t, "no room", l, e, yes("xx", "..", "xx", "..", "xx", "xx", "..", "xx", "..", "xx", "xx", "..")...) // the rows 2, 4, 6 to 24: 2, 4, 1, 3 and 0 below a line of the band, over and over
	l, e = lathe.Seen(sheetOf(1, 24, 8, 20, 0), flats(1, 16), screenOf(2, 0), 1)
	are(t, "12 lines", l, e, yes(".", ".", ".", ".", ".", ".", ".", ".", "x", "x", "x", "x")...)
	l, e = lathe.Seen(sheetOf(1, 60, 8, 20, 0), flats(1, 16), screenOf(2, 0), 0)
	are(t, "30 lines would fit", l, e, yes(".", ".", ".", ".", ".", ".", ".", ".", "x", "x", "x", "x")...)
	l, e = lathe.Seen(sheetOf(1, 1, 1, 0, 0), flats(1, 0), screenOf(16, 15), 0)
	are(t, "a screen that begins below the sheet", l, e)
}

// TestSeenErrors: P7.5, ErrInk before ErrArg, and ErrArg for each screen that is not valid, also for one whose by would be in range.
func TestSeenErrors(t *testing.T) {
	for _, b := range []api.Band{{all(5, 0)}, flats(6, 0, 2), make(api.Band, 13), flats(6, 19)} {
		for _, c := range []api.Screen{exampleScreen, {}, screenOf(1, 0), screenOf(8, 8)} {
			for _, by := range []int{0, 8, -1} {
				l, e := lathe.Seen(example, b, c, by)
				fails(t, b, l, e, api.ErrInk)
			}
		}
	}
	for _, c := range []api.Screen{{}, screenOf(1, 0), screenOf(17, 0), screenOf(8, 8), screenOf(8, -1), screenOf(16, 16), screenOf(leastInt, 0), screenOf(greatestInt, 0), screenOf(leastInt, leastInt), screenOf(8, leastInt), screenOf(8, greatestInt)} {
		l, e := lathe.Seen(example, nil, c, 0)
		fails(t, c, l, e, api.ErrArg)
	}
}

// TestRandomSeen: P7.5, random bands through random screens.
func TestRandomSeen(t *testing.T) {
	r := rand.New(rand.NewSource(73))
	for range 2000 {
		s, period := randomSheet(r), 2+r.Intn(15)
		c, b := screenOf(period, r.Intn(period)), randomBand(r, s)
		by := r.Intn(period)
		l, e := lathe.Seen(s, b, c, by)
		are(t, b, l, e, seenOf(s, inkOf(s, b), c, by)...)
	}
}
