package lathe_test

import (
	"math/rand"
	"testing"

	"barleycorn/api"
	"barleycorn/lathe"
)

// sheetFields are the numbers of a sheet, with their limits.
func sheetFields() []struct {
	field       func(*api.Sheet) *int
	least, most int
} {
	return []struct {
		field       func(*api.Sheet) *int
		least, most int
	}{
		{func(s *api.Sheet) *int { return &s.Cols }, 1, 40},
		{func(s *api.Sheet) *int { return &s.Rows }, 1, 60},
		{func(s *api.Sheet) *int { return &s.Weight }, 1, 8},
		{func(s *api.Sheet) *int { return &s.Clear }, 0, 20},
		{func(s *api.Sheet) *int { return &s.Lean }, 0, 8},
	}
}

// sheetErrors are the errors of all functions with a sheet, for other arguments that are all wrong.
func sheetErrors(s api.Sheet) map[string]api.Errno {
	errors := map[string]api.Errno{"CheckSheet": lathe.CheckSheet(s), "Check": lathe.Check(s, make(api.Band, 13))}
	_, errors["Clashes"] = lathe.Clashes(s, make(api.Band, 13))
	_, errors["Ink"] = lathe.Ink(s, make(api.Band, 13))
	_, errors["Between"] = lathe.Between(s, nil, nil, 0)
	_, errors["Most"] = lathe.Most(s, nil, nil)
	_, _, errors["Room"] = lathe.Room(s, api.Screen{})
	_, errors["Draw"] = lathe.Draw(s, api.Screen{}, make([][]int, 13))
	_, errors["Hide"] = lathe.Hide(s, api.Screen{}, make([][]bool, 13))
	_, errors["Seen"] = lathe.Seen(s, make(api.Band, 13), api.Screen{}, -1)
	return errors
}

// TestSheets: P7.1, each number of a sheet at its limits, just beyond them, and far away; ErrSheet comes before all other errors in all functions with a sheet.
func TestSheets(t *testing.T) {
	for i, f := range sheetFields() {
		for n, isValid := range around(f.least, f.most) {
			s := sheetOf(5, 30, 3, 2, 1)
			*f.field(&s) = n
			for name, e := range sheetErrors(s) {
				if !isValid && e != api.ErrSheet || isValid && e == api.ErrSheet {
					t.Error("field", i, "is", n, name, "gives", e)
				}
			}
			if e := lathe.CheckSheet(s); e != errorUnless(isValid, api.ErrSheet) {
				t.Error("field", i, "is", n, e)
			}
			if e := lathe.Check(s, nil); e != errorUnless(isValid, api.ErrSheet) {
				t.Error("field", i, "is", n, e)
			}
		}
	}
	for _, s := range []api.Sheet{sheetOf(1, 1, 1, 0, 0), sheetOf(40, 60, 8, 20, 8), sheetOf(40, 1, 8, 20, 8), sheetOf(1, 1, 8, 0, 0), sheetOf(1, 60, 1, 20, 0)} {
		if e := lathe.CheckSheet(s); e != api.OK {
			t.Error(s, e)
		}
	}
	for _, s := range []api.Sheet{{}, sheetOf(0, 0, 1, 0, 0), sheetOf(-5, -30, 3, 2, 1), sheetOf(41, 61, 9, 21, 9)} {
		for name, e := range sheetErrors(s) {
			if e != api.ErrSheet {
				t.Error(s, name, e)
			}
		}
	}
}

// TestValidArguments: P7.1, ErrSheet also where all other arguments would be right.
func TestValidArguments(t *testing.T) {
	s := sheetOf(6, 20, 2, 1, 9)
	b, c, wish, mask := flats(6, 1, 9), exampleScreen, [][]int{all(6, 0), all(6, 0)}, yes("......", "......")
	clashes, e := lathe.Clashes(s, b)
	fails(t, "Clashes", clashes, e, api.ErrSheet)
	dots, e := lathe.Ink(s, b)
	fails(t, "Ink", dots, e, api.ErrSheet)
	lines, e := lathe.Between(s, b[0], b[1], 2)
	fails(t, "Between", lines, e, api.ErrSheet)
	if n, e := lathe.Most(s, b[0], b[1]); n != 0 || e != api.ErrSheet {
		t.Error(n, e)
	}
	if n, room, e := lathe.Room(s, c); n != 0 || room != 0 || e != api.ErrSheet {
		t.Error(n, room, e)
	}
	lines, e = lathe.Draw(s, c, wish)
	fails(t, "Draw", lines, e, api.ErrSheet)
	lines, e = lathe.Hide(s, c, mask)
	fails(t, "Hide", lines, e, api.ErrSheet)
	seen, e := lathe.Seen(s, b, c, 4)
	fails(t, "Seen", seen, e, api.ErrSheet)
}

// TestNoLine: P7.1 to P7.5, a Weight that is greater than Rows: the sheet is valid, and has no lines.
func TestNoLine(t *testing.T) {
	s := sheetOf(3, 2, 3, 0, 8)
	for edge := -3; edge < 4; edge++ {
		if e := lathe.Check(s, flats(3, edge)); e != api.ErrInk {
			t.Error(edge, e)
		}
		l, e := lathe.Clashes(s, flats(3, edge))
		fails(t, edge, l, e, api.ErrArg)
		b, e := lathe.Between(s, all(3, edge), all(3, edge), 2)
		fails(t, edge, b, e, api.ErrArg)
		if n, e := lathe.Most(s, all(3, edge), all(3, edge)); n != 0 || e != api.ErrArg {
			t.Error(edge, n, e)
		}
	}
	if e := lathe.Check(s, nil); e != api.OK {
		t.Error(e)
	}
	dots, e := lathe.Ink(s, nil)
	is(t, "Ink", dots, e, all(6, false)...)
	if n, room, e := lathe.Room(s, screenOf(3, 0)); n != 0 || room != 0 || e != api.OK {
		t.Error(n, room, e)
	}
	b, e := lathe.Draw(s, screenOf(3, 0), nil)
	are(t, "Draw", b, e)
	b, e = lathe.Hide(s, screenOf(6, 0), nil)
	are(t, "Hide", b, e)
	seen, e := lathe.Seen(s, nil, screenOf(2, 0), 1)
	are(t, "Seen", seen, e, all(3, false))
}

// TestLines: P7.1, lists with one row too few or too many, at row 0 and at Rows - Weight and just beyond, that differ by just Lean and by one more between two columns.
func TestLines(t *testing.T) {
	s := sheetOf(5, 12, 3, 1, 2)
	for _, x := range []struct {
		line []int
		want bool
	}{
		{nil, false}, {[]int{}, false}, {all(1, 4), false}, {all(4, 4), false}, {all(5, 4), true}, {all(6, 4), false}, {all(10, 4), false}, {make([]int, 1000), false},
		{all(5, 0), true}, {all(5, -1), false}, {all(5, 9), true}, {all(5, 10), false}, {all(5, 12), false}, {all(5, leastInt), false}, {all(5, greatestInt), false},
		{[]int{0, 2, 4, 6, 8}, true}, {[]int{9, 7, 5, 3, 1}, true}, {[]int{4, 6, 4, 2, 4}, true}, {[]int{0, 2, 0, 2, 0}, true},
		{[]int{0, 3, 4, 5, 6}, false}, {[]int{0, 2, 4, 6, 9}, false}, {[]int{9, 6, 5, 4, 3}, false}, {[]int{9, 8, 7, 6, 3}, false}, {[]int{0, 2, 5, 7, 8}, false}, {[]int{8, 7, 4, 3, 2}, false},
		{[]int{0, leastInt, 0, 0, 0}, false}, {[]int{0, greatestInt, 0, 0, 0}, false}, {[]int{greatestInt, leastInt, greatestInt, leastInt, greatestInt}, false}, {[]int{leastInt, greatestInt, 0, 0, 0}, false},
	} {
		if e := lathe.Check(s, api.Band{x.line}); e != errorUnless(x.want, api.ErrInk) {
			t.Error(x, e)
		}
		l, e := lathe.Clashes(s, api.Band{x.line})
		fails(t, x, l, e, errorUnless(x.want, api.ErrArg))
	}
	for i := range 5 { // in each column
		for edge, want := range map[int]bool{-1: false, 0: true, 1: true} {
			if e := lathe.Check(s, api.Band{with(all(5, 1), i, edge)}); e != errorUnless(want, api.ErrInk) {
				t.Error(i, edge, e)
			}
		}
		for edge, want := range map[int]bool{8: true, 9: true, 10: false} {
			if e := lathe.Check(s, api.Band{with(all(5, 8), i, edge)}); e != errorUnless(want, api.ErrInk) {
				t.Error(i, edge, e)
			}
		}
		for edge, want := range map[int]bool{1: false, 2: true, 6: true, 7: false} {
			if e := lathe.Check(s, api.Band{with(all(5, 4), i, edge)}); e != errorUnless(want, api.ErrInk) {
				t.Error(i, edge, e)
			}
		}
	}
}

// TestLean: P7.1, a Lean of 0 and of MaxLean, and sheets of one column, where nothing leans.
func TestLean(t *testing.T) {
	for _, x := range []struct {
		s    api.Sheet
		line []int
		want bool
	}{
		{sheetOf(3, 9, 1, 0, 0), []int{4, 4, 4}, true}, {sheetOf(3, 9, 1, 0, 0), []int{4, 4, 5}, false}, {sheetOf(3, 9, 1, 0, 0), []int{4, 3, 4}, false},
		{sheetOf(3, 60, 1, 0, 8), []int{0, 8, 0}, true}, {sheetOf(3, 60, 1, 0, 8), []int{0, 8, 17}, false}, {sheetOf(3, 60, 1, 0, 8), []int{59, 51, 43}, true}, {sheetOf(3, 60, 1, 0, 8), []int{59, 50, 49}, false},
		{sheetOf(1, 60, 1, 0, 0), []int{59}, true}, {sheetOf(1, 60, 1, 0, 0), []int{60}, false}, {sheetOf(1, 60, 8, 0, 0), []int{52}, true}, {sheetOf(1, 60, 8, 0, 0), []int{53}, false},
		{sheetOf(1, 8, 8, 0, 0), []int{0}, true}, {sheetOf(1, 8, 8, 0, 0), []int{1}, false}, {sheetOf(1, 1, 1, 20, 0), []int{0}, true}, {sheetOf(40, 60, 8, 20, 8), all(40, 52), true}, {sheetOf(40, 60, 8, 20, 8), all(40, 53), false},
	} {
		if e := lathe.Check(x.s, api.Band{x.line}); e != errorUnless(x.want, api.ErrInk) {
			t.Error(x, e)
		}
	}
}

// TestBandSizes: P7.1, bands of no line, of one, of MaxLines and of one more.
func TestBandSizes(t *testing.T) {
	s := sheetOf(4, 60, 1, 1, 1)
	for n, want := range map[int]bool{0: true, 1: true, 2: true, 11: true, 12: true, 13: false, 14: false, 30: false} {
		b := flats(4, steps(n, 0, 2)...)
		if e := lathe.Check(s, b); e != errorUnless(want, api.ErrInk) {
			t.Error(n, e)
		}
		l, e := lathe.Clashes(s, b)
		fails(t, n, l, e, errorUnless(want, api.ErrMany))
		dots, e := lathe.Ink(s, b)
		ends(t, n, dots, e, errorUnless(want, api.ErrInk))
	}
	// More than MaxLines lists are too many whatever they are.
	for _, b := range []api.Band{make(api.Band, 13), flats(4, all(13, 0)...), flats(5, steps(13, 0, 2)...), make(api.Band, 100000)} {
		if e := lathe.Check(s, b); e != api.ErrInk {
			t.Error(len(b), e)
		}
		l, e := lathe.Clashes(s, b)
		fails(t, len(b), l, e, api.ErrMany)
	}
	l, e := lathe.Clashes(s, make(api.Band, 12))
	fails(t, "no lines", l, e, api.ErrArg)
	l, e = lathe.Clashes(s, api.Band{})
	is(t, "no list", l, e)
}

// TestClearance: P7.1, lines that are just Weight + Clear from each other, and one less, in each column, of the first two lines and of the last two.
func TestClearance(t *testing.T) {
	for _, s := range []api.Sheet{sheetOf(5, 60, 3, 2, 1), sheetOf(5, 60, 3, 0, 1), sheetOf(5, 60, 1, 0, 1), sheetOf(5, 60, 8, 1, 1), sheetOf(5, 60, 1, 20, 1)} {
		step := s.Weight + s.Clear
		b := flats(5, 1, 1+step, 1+2*step)
		l, e := lathe.Clashes(s, b)
		is(t, s, l, e)
		if e := lathe.Check(s, b); e != api.OK {
			t.Error(s, e)
		}
		for i := range 2 {
			for c := range 5 {
				for _, near := range []api.Band{with(b, i+1, with(b[i+1], c, b[i+1][c]-1)), with(b, i, with(b[i], c, b[i][c]+1))} {
					if e := lathe.Check(s, near); e != api.ErrInk {
						t.Error(s, near, e)
					}
					dots, e := lathe.Ink(s, near)
					fails(t, near, dots, e, api.ErrInk)
				}
				up := with(b, 0, with(b[0], c, b[0][c]+1))
				l, e := lathe.Clashes(s, up)
				is(t, up, l, e, api.Clash{Upper: 0, Lower: 1, Col: c})
				down := with(b, 2, with(b[2], c, b[2][c]-1))
				l, e = lathe.Clashes(s, down)
				is(t, down, l, e, api.Clash{Upper: 1, Lower: 2, Col: c})
			}
		}
	}
}

// TestClashes: P7.1, the chapter's example, several clashes, one that is in several columns, lines that cross, are equal, or in another order, and the error before a clash.
func TestClashes(t *testing.T) {
	l, e := lathe.Clashes(example, api.Band{all(6, 0), {0, 1, 2, 3, 4, 5}})
	is(t, "example", l, e, api.Clash{Upper: 0, Lower: 1, Col: 0})
	s := sheetOf(6, 40, 2, 1, 2)
	for _, x := range []struct {
		b    api.Band
		want []api.Clash
	}{
		{nil, nil}, {flats(6, 0), nil}, {flats(6, 38), nil}, {flats(6, 0, 3), nil}, {flats(6, 0, 2), []api.Clash{{Upper: 0, Lower: 1, Col: 0}}},
		{api.Band{{0, 0, 0, 2, 4, 6}, all(6, 5)}, []api.Clash{{Upper: 0, Lower: 1, Col: 4}}},
		{api.Band{{0, 1, 2, 3, 4, 5}, {5, 4, 3, 2, 1, 0}}, []api.Clash{{Upper: 0, Lower: 1, Col: 2}}},
		{api.Band{{9, 7, 5, 3, 1, 0}, all(6, 10)}, []api.Clash{{Upper: 0, Lower: 1, Col: 0}}},
		{flats(6, 7, 7, 7), []api.Clash{{Upper: 0, Lower: 1, Col: 0}, {Upper: 1, Lower: 2, Col: 0}}},
		{flats(6, 9, 6, 3), []api.Clash{{Upper: 0, Lower: 1, Col: 0}, {Upper: 1, Lower: 2, Col: 0}}},
		{flats(6, 6, 0, 3), []api.Clash{{Upper: 0, Lower: 1, Col: 0}}}, // each only with the next one: the last one is over the first one
		{flats(6, 0, 9, 0), []api.Clash{{Upper: 1, Lower: 2, Col: 0}}},
		{flats(6, 0, 3, 5, 8, 10), []api.Clash{{Upper: 1, Lower: 2, Col: 0}, {Upper: 3, Lower: 4, Col: 0}}},
		{api.Band{all(6, 0), {4, 4, 4, 4, 2, 2}, {7, 7, 6, 7, 7, 7}, {10, 10, 10, 10, 10, 9}}, []api.Clash{{Upper: 0, Lower: 1, Col: 4}, {Upper: 1, Lower: 2, Col: 2}, {Upper: 2, Lower: 3, Col: 5}}},
		{flats(6, steps(12, 0, 2)...), func() (l []api.Clash) {
			for i := range 11 {
				l = append(l, api.Clash{Upper: i, Lower: i + 1, Col: 0})
			}
			return l
		}()},
	} {
		l, e := lathe.Clashes(s, x.b)
		is(t, x.b, l, e, x.want...)
		if e := lathe.Check(s, x.b); e != errorUnless(len(x.want) == 0, api.ErrInk) {
			t.Error(x.b, e)
		}
	}
	for i := range 3 { // one of the lists is no line
		for _, bad := range [][]int{nil, all(5, 9), all(7, 9), all(6, -1), all(6, 39), {0, 3, 3, 3, 3, 3}} {
			b := with(flats(6, 0, 0, 0), i, bad)
			l, e := lathe.Clashes(s, b)
			fails(t, b, l, e, api.ErrArg)
			if e := lathe.Check(s, b); e != api.ErrInk {
				t.Error(b, e)
			}
		}
	}
}

// clashesOf returns the clashes of lines, by asking for each pair and each column.
func clashesOf(s api.Sheet, b api.Band) []api.Clash {
	var clashes []api.Clash
	for i := range b {
		for k := range b {
			for c := s.Cols - 1; c >= 0 && k == i+1; c-- {
				if b[k][c] < b[i][c]+s.Weight+s.Clear {
					if len(clashes) > 0 && clashes[len(clashes)-1].Upper == i {
						clashes = clashes[:len(clashes)-1]
					}
					clashes = append(clashes, api.Clash{Upper: i, Lower: k, Col: c})
				}
			}
		}
	}
	return clashes
}

// TestRandomClashes: P7.1 and P7.6, random lines and bands: the clashes are all those that there are, and empty just if the lines are a band.
func TestRandomClashes(t *testing.T) {
	r := rand.New(rand.NewSource(71))
	bands, several := 0, 0
	for range 4000 {
		s := randomSheet(r)
		b := randomBand(r, s)
		if e := lathe.Check(s, b); e != api.OK {
			t.Fatal(s, b, e)
		}
		if len(b) > 0 && r.Intn(2) == 0 {
			i, c := r.Intn(len(b)), r.Intn(s.Cols)
			b[i][c] += r.Intn(3) - 1
		}
		for len(b) < 12 && s.Weight <= s.Rows && r.Intn(3) == 0 {
			b = append(b, randomLine(r, s))
		}
		areLines := true
		for _, l := range b {
			areLines = areLines && isLine(s, l)
		}
		l, e := lathe.Clashes(s, b)
		if !areLines {
			fails(t, b, l, e, api.ErrArg)
			continue
		}
		is(t, b, l, e, clashesOf(s, b)...)
		if len(l) == 0 != isBand(s, b) || lathe.Check(s, b) != errorUnless(isBand(s, b), api.ErrInk) {
			t.Fatal(s, b, l)
		}
		if len(l) == 0 && len(b) > 1 {
			bands++
		}
		if len(l) > 1 {
			several++
		}
	}
	if bands < 500 || several < 100 {
		t.Error("only", bands, several)
	}
}
