package lathe_test

import (
	"math/rand"
	"testing"

	"barleycorn/api"
	"barleycorn/lathe"
)

// TestBetweenExamples: P7.3, the chapter's examples, two lines, which are the curves themselves, and MaxLines.
func TestBetweenExamples(t *testing.T) {
	b, e := lathe.Between(example, all(6, 0), all(6, 12), 5)
	are(t, "example", b, e, flats(6, 0, 3, 6, 9, 12)...)
	if n, e := lathe.Most(example, all(6, 0), all(6, 12)); n != 5 || e != api.OK {
		t.Error(n, e)
	}
	b, e = lathe.Between(example, []int{0, 1, 0, 1, 2, 3}, []int{3, 5, 7, 9, 11, 13}, 2)
	are(t, "two lines", b, e, []int{0, 1, 0, 1, 2, 3}, []int{3, 5, 7, 9, 11, 13})
	b, e = lathe.Between(sheetOf(2, 60, 1, 4, 8), []int{0, 4}, []int{55, 59}, 12)
	are(t, "MaxLines", b, e, []int{0, 4}, []int{5, 9}, []int{10, 14}, []int{15, 19}, []int{20, 24}, []int{25, 29}, []int{30, 34}, []int{35, 39}, []int{40, 44}, []int{45, 49}, []int{50, 54}, []int{55, 59})
}

// TestBetweenQuotients: P7.3, quotients that must be rounded down, in each column, and only after they have been multiplied.
func TestBetweenQuotients(t *testing.T) {
	s := sheetOf(4, 40, 1, 1, 8)
	for _, x := range []struct {
		top, bottom []int
		n           int
		want        api.Band
	}{
		{all(4, 0), all(4, 5), 3, flats(4, 0, 2, 5)},
		{all(4, 1), all(4, 6), 3, flats(4, 1, 3, 6)}, // 1 + 5/2, and not 7/2
		{all(4, 1), all(4, 8), 4, flats(4, 1, 3, 5, 8)},
		{all(4, 2), all(4, 10), 4, flats(4, 2, 4, 7, 10)},
		{[]int{0, 1, 2, 3}, []int{10, 12, 14, 16}, 5, api.Band{{0, 1, 2, 3}, {2, 3, 5, 6}, {5, 6, 8, 9}, {7, 9, 11, 12}, {10, 12, 14, 16}}},
		{all(4, 3), []int{9, 10, 11, 12}, 4, api.Band{all(4, 3), {5, 5, 5, 6}, {7, 7, 8, 9}, {9, 10, 11, 12}}},
		{all(4, 0), all(4, 39), 12, flats(4, 0, 3, 7, 10, 14, 17, 21, 24, 28, 31, 35, 39)},
	} {
		b, e := lathe.Between(s, x.top, x.bottom, x.n)
		are(t, x, b, e, x.want...)
	}
}

// TestBetweenNumbers: P7.3, n at 1, 2, MaxLines, one more, and far away.
func TestBetweenNumbers(t *testing.T) {
	s := sheetOf(2, 60, 1, 0, 0)
	for n, want := range around(2, 12) {
		b, e := lathe.Between(s, all(2, 0), all(2, 59), n)
		ends(t, n, b, e, errorUnless(want, api.ErrArg))
		if want && len(b) != n {
			t.Error(n, b)
		}
		// An n that is wrong is an error also where no lines would be a band.
		b, e = lathe.Between(s, all(2, 7), all(2, 7), n)
		fails(t, n, b, e, map[bool]api.Errno{true: api.ErrInk, false: api.ErrArg}[want])
	}
	for n := 3; n <= 11; n++ {
		b, e := lathe.Between(s, all(2, 4), all(2, 4+3*(n-1)), n)
		are(t, n, b, e, flats(2, steps(n, 4, 3)...)...)
	}
}

// TestCurves: P7.3, top and bottom that are equal, that touch in one column, that cross in one, and that are no lines.
func TestCurves(t *testing.T) {
	s := sheetOf(4, 20, 2, 0, 2)
	for _, x := range []struct {
		top, bottom []int
		want        api.Errno
	}{
		{all(4, 5), all(4, 5), api.ErrInk}, {all(4, 5), all(4, 6), api.ErrInk}, {all(4, 5), all(4, 7), api.OK}, {all(4, 5), all(4, 4), api.ErrArg},
		{all(4, 5), []int{5, 7, 9, 11}, api.ErrInk}, {all(4, 5), []int{11, 9, 7, 5}, api.ErrInk}, {all(4, 5), []int{7, 6, 5, 7}, api.ErrInk}, {[]int{5, 6, 7, 6}, all(4, 7), api.ErrInk},
		{all(4, 5), []int{4, 6, 8, 10}, api.ErrArg}, {all(4, 5), []int{10, 8, 6, 4}, api.ErrArg}, {all(4, 5), []int{7, 5, 4, 6}, api.ErrArg}, {[]int{3, 5, 7, 9}, []int{9, 7, 5, 3}, api.ErrArg},
		{all(3, 5), all(4, 9), api.ErrArg}, {all(4, 5), all(3, 9), api.ErrArg}, {all(3, 5), all(3, 9), api.ErrArg}, {all(5, 5), all(4, 9), api.ErrArg}, {all(4, 5), all(5, 9), api.ErrArg}, {nil, all(4, 9), api.ErrArg}, {all(4, 5), nil, api.ErrArg}, {nil, nil, api.ErrArg},
		{all(4, -1), all(4, 9), api.ErrArg}, {all(4, 0), all(4, 18), api.OK}, {all(4, 0), all(4, 19), api.ErrArg}, {all(4, 19), all(4, 18), api.ErrArg},
		{[]int{0, 2, 4, 7}, all(4, 18), api.ErrArg}, {all(4, 0), []int{18, 18, 15, 18}, api.ErrArg}, {all(4, leastInt), all(4, greatestInt), api.ErrArg}, {all(4, 0), all(4, leastInt), api.ErrArg}, {all(4, greatestInt), all(4, leastInt), api.ErrArg},
	} {
		b, e := lathe.Between(s, x.top, x.bottom, 2)
		ends(t, x, b, e, x.want)
		if e == api.OK && !areSame(b, api.Band{x.top, x.bottom}) {
			t.Error(x, b)
		}
		n, e := lathe.Most(s, x.top, x.bottom)
		if e != x.want || (n >= 2) != (e == api.OK) || e != api.OK && n != 0 {
			t.Error(x, n, e)
		}
	}
}

// TestJustBands: P7.3 and P7.6, lines that just are a band, and just are not, with less room in one column only.
func TestJustBands(t *testing.T) {
	for _, s := range []api.Sheet{sheetOf(5, 60, 2, 1, 1), sheetOf(5, 60, 3, 0, 1), sheetOf(5, 60, 1, 0, 1), sheetOf(5, 60, 1, 3, 1)} {
		step := s.Weight + s.Clear
		for n := 2; n <= 12; n++ {
			top, bottom := all(5, 3), all(5, 3+(n-1)*step)
			b, e := lathe.Between(s, top, bottom, n)
			are(t, n, b, e, flats(5, steps(n, 3, step)...)...)
			if most, e := lathe.Most(s, top, bottom); most != n || e != api.OK {
				t.Error(s, n, most, e)
			}
			for c := range 5 {
				for _, x := range [][2][]int{{top, with(bottom, c, bottom[c]-1)}, {with(top, c, 4), bottom}} {
					b, e := lathe.Between(s, x[0], x[1], n)
					fails(t, x, b, e, errorUnless(x[0][c] > x[1][c], api.ErrInk))
					want := n - 1
					if n == 2 {
						want = 0
					}
					if most, e := lathe.Most(s, x[0], x[1]); most != want || e != errorUnless(n > 2, api.ErrInk) {
						t.Error(s, x, n, most, e)
					}
				}
				more := with(bottom, c, bottom[c]+1)
				if most, e := lathe.Most(s, top, more); most != n || e != api.OK {
					t.Error(s, n, most, e)
				}
			}
		}
	}
}

// TestMost: P7.3, no line fits, just 2, MaxLines, and more than MaxLines would.
func TestMost(t *testing.T) {
	for _, x := range []struct {
		s           api.Sheet
		top, bottom int
		want        int
	}{
		{example, 4, 4, 0}, {example, 4, 6, 0}, {example, 4, 7, 2}, {example, 4, 9, 2}, {example, 4, 10, 3}, {example, 0, 18, 7},
		{sheetOf(6, 60, 8, 20, 0), 0, 52, 2}, {sheetOf(6, 60, 8, 20, 0), 0, 28, 2}, {sheetOf(6, 60, 8, 20, 0), 0, 27, 0},
		{sheetOf(6, 60, 1, 0, 0), 0, 10, 11}, {sheetOf(6, 60, 1, 0, 0), 0, 11, 12}, {sheetOf(6, 60, 1, 0, 0), 0, 12, 12}, {sheetOf(6, 60, 1, 0, 0), 0, 59, 12},
		{sheetOf(6, 60, 1, 4, 0), 0, 54, 11}, {sheetOf(6, 60, 1, 4, 0), 0, 55, 12}, {sheetOf(6, 60, 1, 4, 0), 4, 59, 12}, {sheetOf(6, 60, 1, 4, 0), 5, 59, 11},
	} {
		if n, e := lathe.Most(x.s, all(6, x.top), all(6, x.bottom)); n != x.want || e != errorUnless(x.want > 0, api.ErrInk) {
			t.Error(x, n, e)
		}
	}
}

// betweenOf returns lines between two others: each is as far down as n - 1 times what it has gone is at most its part of the way.
func betweenOf(top, bottom []int, n int) api.Band {
	var b api.Band
	for i := range n {
		l := make([]int, len(top))
		for c := range l {
			gone := 0
			for (gone+1)*(n-1) <= i*(bottom[c]-top[c]) {
				gone++
			}
			l[c] = top[c] + gone
		}
		b = append(b, l)
	}
	return b
}

// TestRandomBetween: P7.3 and P7.6, random curves: what Between returns is a band; Most says the greatest number for which it does, and for no greater one it does.
func TestRandomBetween(t *testing.T) {
	r := rand.New(rand.NewSource(74))
	counts := map[int]int{}
	for range 3000 {
		s := randomSheet(r)
		if s.Weight > s.Rows {
			continue
		}
		top, bottom := randomLine(r, s), randomLine(r, s)
		for c := range bottom { // the lower line is as low as the sheet allows, less some dots
			top[c] /= 4
			bottom[c] = max(top[c], s.Rows-s.Weight-bottom[c]/4)
		}
		if !isLine(s, top) || !isLine(s, bottom) {
			t.Fatal(s, top, bottom)
		}
		most := 0
		for n := 2; n <= 12; n++ {
			want := betweenOf(top, bottom, n)
			b, e := lathe.Between(s, top, bottom, n)
			if !isBand(s, want) {
				fails(t, n, b, e, api.ErrInk)
				continue
			}
			most = n
			are(t, n, b, e, want...)
			if e := lathe.Check(s, b); e != api.OK {
				t.Fatal(s, b, e)
			}
		}
		if n, e := lathe.Most(s, top, bottom); n != most || e != errorUnless(most > 0, api.ErrInk) {
			t.Fatal(s, top, bottom, n, e, "want", most)
		}
		counts[most]++
	}
	if counts[0] < 50 || counts[2] < 20 || counts[3] < 50 || counts[5] < 20 || counts[12] < 50 {
		t.Error("only", counts)
	}
}
