package lathe_test

import (
	"math/rand"
	"slices"
	"testing"

	"barleycorn/api"
	"barleycorn/lathe"
)

// roomIs reports an error unless Room gives a number of lines and a room, or an error and neither.
func roomIs(t *testing.T, s api.Sheet, c api.Screen, lines, room int, want api.Errno) {
	t.Helper()
	if n, free, e := lathe.Room(s, c); n != lines || free != room || e != want {
		t.Error(s, c, "gives", n, free, e, "want", lines, room, want)
	}
}

// TestRoom: P7.4, the chapter's example, and screens of which no line, one, MaxLines and more would fit on the sheet.
func TestRoom(t *testing.T) {
	roomIs(t, example, exampleScreen, 2, 5, api.OK)
	for _, x := range []struct {
		rows, period, phase int
		lines               int
	}{
		{7, 8, 0, 0}, {8, 8, 0, 1}, {15, 8, 0, 1}, {16, 8, 0, 2}, {8, 8, 1, 0}, {9, 8, 1, 1}, {14, 8, 7, 0}, {15, 8, 7, 1}, {22, 8, 7, 1}, {23, 8, 7, 2},
		{1, 16, 15, 0}, {1, 16, 0, 0}, {30, 16, 15, 0}, {31, 16, 15, 1}, {16, 16, 0, 1}, {60, 16, 0, 3}, {60, 16, 12, 3}, {60, 16, 13, 2},
		{1, 2, 0, 0}, {1, 2, 1, 0}, {2, 2, 0, 1}, {2, 2, 1, 0}, {3, 2, 1, 1}, {3, 2, 0, 1}, {23, 2, 0, 11}, {24, 2, 0, 12}, {24, 2, 1, 11}, {25, 2, 1, 12}, {26, 2, 0, 12}, {60, 2, 0, 12}, {60, 2, 1, 12},
		{60, 5, 0, 12}, {60, 5, 1, 11}, {59, 5, 0, 11}, {60, 4, 0, 12}, {60, 4, 3, 12}, {60, 6, 0, 10},
	} {
		roomIs(t, sheetOf(3, x.rows, 1, 0, 0), screenOf(x.period, x.phase), x.lines, x.period-1, api.OK)
		roomIs(t, sheetOf(3, x.rows, 1, 1, 8), screenOf(x.period, x.phase), x.lines, x.period-2, api.OK)
	}
}

// TestScreens: P7.4, Period at 2, at MaxPeriod and just beyond, Phase at 0, at Period - 1 and just beyond, and both far away.
func TestScreens(t *testing.T) {
	s := sheetOf(3, 60, 1, 0, 0)
	for period, isValid := range around(2, 16) {
		want := errorUnless(isValid, api.ErrArg)
		_, _, e := lathe.Room(s, screenOf(period, 0))
		_, _, last := lathe.Room(s, screenOf(period, period-1))
		if e != want || last != want {
			t.Error(period, e, last)
		}
		if _, e := lathe.Seen(s, nil, screenOf(period, 0), 0); e != want {
			t.Error(period, e)
		}
	}
	for period := 2; period <= 16; period++ {
		for phase, isValid := range around(0, period-1) {
			want := errorUnless(isValid, api.ErrArg)
			n, room, e := lathe.Room(s, screenOf(period, phase))
			if e != want || (e == api.OK) != (n > 0) || room != map[bool]int{true: period - 1}[isValid] {
				t.Error(period, phase, n, room, e)
			}
			if _, e := lathe.Seen(s, nil, screenOf(period, phase), 0); e != want {
				t.Error(period, phase, e)
			}
		}
	}
}

// TestRoomErrors: P7.4, a room of 0 and of less, ErrArg before ErrInk, and ErrInk also where no line fits on the sheet.
func TestRoomErrors(t *testing.T) {
	for _, x := range []struct{ weight, clear, period, room int }{
		{1, 1, 2, 0}, {1, 2, 2, -1}, {2, 0, 2, 0}, {3, 0, 2, -1}, {3, 2, 5, 0}, {3, 2, 4, -1}, {3, 2, 6, 1}, {8, 8, 16, 0}, {8, 8, 15, -1}, {8, 9, 16, -1}, {1, 15, 16, 0}, {1, 16, 16, -1}, {8, 20, 16, -12}, {8, 20, 2, -26}, {1, 0, 16, 15},
	} {
		for _, rows := range []int{1, 20, 60} {
			s, c := sheetOf(3, rows, x.weight, x.clear, 1), screenOf(x.period, 0)
			want := errorUnless(x.room >= 0, api.ErrInk)
			if n, room, e := lathe.Room(s, c); e != want || room != max(0, x.room) || e != api.OK && n != 0 {
				t.Error(x, n, room, e)
			}
			b, e := lathe.Draw(s, c, randomWishes(rand.New(rand.NewSource(1)), len(rowsOf(s, c)), 3, max(0, x.room)))
			ends(t, x, b, e, want)
		}
		for _, c := range []api.Screen{{}, screenOf(1, 0), screenOf(17, 0), screenOf(x.period, x.period), screenOf(x.period, -1)} {
			roomIs(t, sheetOf(3, 20, x.weight, x.clear, 1), c, 0, 0, api.ErrArg)
		}
	}
}

// TestDrawExamples: P7.4, wishes that lean just as much as is allowed, and one more, up and down, and that are carried across all columns from either side; the Lean is 2.
func TestDrawExamples(t *testing.T) {
	s := sheetOf(6, 20, 2, 1, 2)
	c := screenOf(16, 3) // one line, with the room 13
	for _, x := range []struct{ wish, want []int }{
		{all(6, 0), all(6, 0)}, {all(6, 13), all(6, 13)}, {all(6, 7), all(6, 7)},
		{[]int{0, 2, 4, 6, 8, 10}, []int{0, 2, 4, 6, 8, 10}}, {[]int{13, 11, 9, 7, 5, 3}, []int{13, 11, 9, 7, 5, 3}}, {[]int{5, 7, 5, 3, 5, 3}, []int{5, 7, 5, 3, 5, 3}},
		{[]int{0, 3, 4, 6, 8, 10}, []int{0, 2, 4, 6, 8, 10}}, {[]int{0, 2, 4, 6, 8, 11}, []int{0, 2, 4, 6, 8, 10}}, {[]int{13, 11, 9, 7, 6, 3}, []int{13, 11, 9, 7, 5, 3}}, {[]int{13, 10, 9, 7, 5, 3}, []int{12, 10, 9, 7, 5, 3}},
		{[]int{0, 13, 13, 13, 13, 13}, []int{0, 2, 4, 6, 8, 10}}, {[]int{13, 13, 13, 13, 13, 0}, []int{10, 8, 6, 4, 2, 0}}, {[]int{1, 13, 13, 13, 13, 0}, []int{1, 3, 5, 4, 2, 0}}, {[]int{13, 13, 0, 13, 13, 13}, []int{4, 2, 0, 2, 4, 6}},
		{[]int{0, 0, 13, 0, 0, 0}, []int{0, 0, 2, 0, 0, 0}}, {[]int{13, 0, 0, 0, 0, 13}, []int{2, 0, 0, 0, 0, 2}}, {[]int{0, 13, 13, 0, 13, 13}, []int{0, 2, 2, 0, 2, 4}}, {[]int{9, 3, 9, 9, 1, 9}, []int{5, 3, 5, 3, 1, 3}},
	} {
		for i := range x.want {
			x.want[i] += 3
		}
		b, e := lathe.Draw(s, c, [][]int{x.wish})
		are(t, x, b, e, x.want)
	}
	b, e := lathe.Draw(example, exampleScreen, [][]int{{5, 0, 5, 5, 5, 5}, {1, 2, 3, 4, 5, 0}})
	are(t, "two lines", b, e, []int{3, 1, 3, 5, 6, 6}, []int{10, 11, 12, 13, 11, 9})
}

// TestDrawLean: P7.4, Lean at 0, where the least wish is that of all columns, and at MaxLean; across all columns of the broadest sheet; and sheets of one column.
func TestDrawLean(t *testing.T) {
	c := screenOf(16, 0)
	b, e := lathe.Draw(sheetOf(5, 16, 1, 0, 0), c, [][]int{{9, 7, 3, 8, 15}})
	are(t, "no Lean", b, e, all(5, 3))
	b, e = lathe.Draw(sheetOf(5, 16, 1, 0, 0), c, [][]int{{9, 7, 8, 9, 2}})
	are(t, "no Lean", b, e, all(5, 2))
	b, e = lathe.Draw(sheetOf(5, 16, 1, 0, 0), c, [][]int{{1, 7, 8, 9, 2}})
	are(t, "no Lean", b, e, all(5, 1))
	b, e = lathe.Draw(sheetOf(4, 16, 1, 0, 8), c, [][]int{{0, 8, 15, 6}})
	are(t, "MaxLean", b, e, []int{0, 8, 14, 6})
	b, e = lathe.Draw(sheetOf(4, 16, 1, 0, 8), c, [][]int{{15, 0, 9, 15}})
	are(t, "MaxLean", b, e, []int{8, 0, 8, 15})
	b, e = lathe.Draw(sheetOf(40, 16, 1, 0, 1), c, [][]int{with(all(40, 15), 0, 0)})
	are(t, "from the left", b, e, slices.Concat(steps(15, 0, 1), all(25, 15)))
	b, e = lathe.Draw(sheetOf(40, 16, 1, 0, 1), c, [][]int{with(all(40, 15), 39, 0)})
	are(t, "from the right", b, e, slices.Concat(all(25, 15), steps(15, 14, -1)))
	for _, side := range []int{0, 39} {
		b, e = lathe.Draw(sheetOf(40, 16, 1, 0, 0), c, [][]int{with(all(40, 15), side, 0)})
		are(t, side, b, e, all(40, 0))
	}
	b, e = lathe.Draw(sheetOf(1, 60, 1, 0, 0), screenOf(15, 14), [][]int{{14}, {0}, {7}})
	are(t, "one column", b, e, []int{28}, []int{29}, []int{51})
	b, e = lathe.Draw(sheetOf(1, 24, 1, 1, 3), screenOf(2, 0), flats(1, all(12, 0)...))
	are(t, "12 lines", b, e, flats(1, steps(12, 0, 2)...)...)
}

// TestDrawErrors: P7.4, Room's error first, too few and too many lists, lists that are too short and too long, and wishes at 0, at the room and just beyond.
func TestDrawErrors(t *testing.T) {
	fine := [][]int{all(6, 0), all(6, 5)}
	for _, x := range []struct {
		c    api.Screen
		wish [][]int
		want api.Errno
	}{
		{exampleScreen, fine, api.OK}, {exampleScreen, nil, api.ErrArg}, {exampleScreen, fine[:1], api.ErrArg}, {exampleScreen, flats(6, 0, 0, 0), api.ErrArg}, {exampleScreen, make([][]int, 2), api.ErrArg}, {exampleScreen, make([][]int, 1000), api.ErrArg},
		{screenOf(16, 15), nil, api.OK}, {screenOf(16, 15), [][]int{}, api.OK}, {screenOf(16, 15), [][]int{nil}, api.ErrArg}, {screenOf(16, 15), flats(6, 0), api.ErrArg},
		{screenOf(2, 0), nil, api.ErrInk}, {screenOf(2, 0), fine, api.ErrInk}, {screenOf(2, 2), nil, api.ErrArg}, {screenOf(17, 0), fine, api.ErrArg}, {screenOf(3, 0), flats(6, 0, 0, 0, 0, 0, 0), api.OK}, {screenOf(3, 0), flats(6, 0, 0, 0, 0, 0, 1), api.ErrArg},
	} {
		b, e := lathe.Draw(example, x.c, x.wish)
		ends(t, x, b, e, x.want)
	}
	for i := range 2 {
		for _, l := range [][]int{nil, all(5, 0), all(7, 0), all(1, 0), all(12, 0)} {
			b, e := lathe.Draw(example, exampleScreen, with(fine, i, l))
			fails(t, l, b, e, api.ErrArg)
		}
		for c := range 6 {
			for wish, isValid := range around(0, 5) {
				b, e := lathe.Draw(example, exampleScreen, with(fine, i, with(fine[i], c, wish)))
				ends(t, wish, b, e, errorUnless(isValid, api.ErrArg))
			}
		}
	}
}

// TestRandomDraw: P7.4 and P7.6, random wishes: the drawing is as the chapter has it, and a band.
func TestRandomDraw(t *testing.T) {
	r := rand.New(rand.NewSource(75))
	for range 3000 {
		s, c := randomScreen(r)
		roomIs(t, s, c, len(rowsOf(s, c)), roomOf(s, c), api.OK)
		wish := randomWishes(r, len(rowsOf(s, c)), s.Cols, roomOf(s, c))
		b, e := lathe.Draw(s, c, wish)
		are(t, wish, b, e, drawingOf(s, c, wish)...)
		if e := lathe.Check(s, b); e != api.OK || !isBand(s, b) {
			t.Fatal(s, c, b, e)
		}
	}
}

// isBelow reports whether all lines of a band are nowhere above those of another one.
func isBelow(a, b api.Band) bool {
	return slices.EqualFunc(a, b, func(x, y []int) bool {
		return slices.EqualFunc(x, y, func(v, w int) bool { return v >= w })
	})
}

// lines yields all lines of a sheet that are nowhere below some edges. They use the same memory.
func lines(s api.Sheet, lowest []int) func(yield func([]int) bool) {
	return func(yield func([]int) bool) {
		line := make([]int, s.Cols)
		for {
			if isLine(s, line) && !yield(line) {
				return
			}
			i := 0
			for i < s.Cols && line[i] == lowest[i] {
				line[i] = 0
				i++
			}
			if i == s.Cols {
				return
			}
			line[i]++
		}
	}
}

// TestGreatestLine: P7.7, of a small sheet with one line: each line that is nowhere lower than the wishes is nowhere lower than the drawing, which is one of them.
func TestGreatestLine(t *testing.T) {
	r := rand.New(rand.NewSource(76))
	tried := 0
	for range 300 {
		s, c := sheetOf(1+r.Intn(4), 8, 1+r.Intn(2), r.Intn(2), r.Intn(4)), screenOf(6, r.Intn(3))
		wish := randomWishes(r, 1, s.Cols, roomOf(s, c))
		drawing := drawn(t, s, c, wish)
		lowest := slices.Clone(wish[0])
		for i := range lowest {
			lowest[i] += c.Phase
		}
		isOne := false
		for line := range lines(s, lowest) {
			tried++
			if !isBelow(drawing, api.Band{line}) {
				t.Fatal(s, c, wish, drawing, line)
			}
			isOne = isOne || slices.Equal(line, drawing[0])
		}
		if !isOne {
			t.Fatal(s, c, wish, drawing)
		}
	}
	if tried < 10000 {
		t.Error("only", tried)
	}
}

// TestGreatestBand: P7.7, of a small sheet with two lines: each band of two lines that are nowhere lower than the wishes is nowhere lower than the drawing.
func TestGreatestBand(t *testing.T) {
	r := rand.New(rand.NewSource(77))
	tried := 0
	for range 30 {
		s, c := sheetOf(1+r.Intn(3), 9, 1+r.Intn(2), r.Intn(2), r.Intn(3)), screenOf(4, r.Intn(2))
		wish := randomWishes(r, 2, s.Cols, roomOf(s, c))
		drawing := drawn(t, s, c, wish)
		lowest := [2][]int{slices.Clone(wish[0]), slices.Clone(wish[1])}
		for i := range s.Cols {
			lowest[0][i] += c.Phase
			lowest[1][i] += c.Phase + c.Period
		}
		for upper := range lines(s, lowest[0]) {
			for lower := range lines(s, lowest[1]) {
				if isBand(s, api.Band{upper, lower}) {
					tried++
					if !isBelow(drawing, api.Band{upper, lower}) {
						t.Fatal(s, c, wish, drawing, upper, lower)
					}
				}
			}
		}
	}
	if tried < 1000 {
		t.Error("only", tried)
	}
}

// TestMoreWishes: P7.7, more wishes make no line higher up, and wishes that lean no more than the sheet allows are drawn as they are.
func TestMoreWishes(t *testing.T) {
	r := rand.New(rand.NewSource(78))
	for range 2000 {
		s, c := randomScreen(r)
		rows, room := rowsOf(s, c), roomOf(s, c)
		wish := randomWishes(r, len(rows), s.Cols, room)
		first := drawn(t, s, c, wish)
		leaning := [][]int{}
		for i, l := range first {
			calm := slices.Clone(l)
			for k := range calm {
				calm[k] -= rows[i]
			}
			leaning = append(leaning, calm)
		}
		if again := drawn(t, s, c, leaning); !areSame(again, first) {
			t.Fatal(s, c, leaning, first, again)
		}
		for _, l := range wish {
			for k := range l {
				if r.Intn(3) == 0 {
					l[k] += r.Intn(room - l[k] + 1)
				}
			}
		}
		if more := drawn(t, s, c, wish); !isBelow(more, first) {
			t.Fatal(s, c, wish, more, first)
		}
	}
}
