package lathe_test

import (
	"math/rand"
	"slices"
	"testing"

	"barleycorn/api"
	"barleycorn/lathe"
)

// TestHideExamples: P7.4 and P7.9, the chapter's examples, and masks that are all yes and all no.
func TestHideExamples(t *testing.T) {
	b, e := lathe.Hide(example, exampleScreen, yes("..xxx.", "......"))
	are(t, "example", b, e, []int{1, 1, 3, 5, 3, 1}, all(6, 9))
	seen, e := lathe.Seen(example, b, exampleScreen, 4)
	are(t, "by 4", seen, e, yes("...x..", "......")...)
	seen, e = lathe.Seen(example, b, exampleScreen, 0)
	are(t, "by 0", seen, e, yes("xx...x", "xxxxxx")...)
	b, e = lathe.Hide(example, exampleScreen, yes("xxxxxx", "xxxxxx"))
	are(t, "all yes", b, e, flats(6, 5, 13)...)
	b, e = lathe.Hide(example, exampleScreen, yes("......", "......"))
	are(t, "all no", b, e, flats(6, 1, 9)...)
	b, e = lathe.Hide(example, exampleScreen, yes(".xxxxx", "xx.x.x"))
	are(t, "both", b, e, []int{1, 3, 5, 5, 5, 5}, []int{13, 11, 9, 11, 9, 11})
	b, e = lathe.Hide(sheetOf(6, 20, 2, 1, 4), exampleScreen, yes(".xxxxx", "xx.x.x"))
	are(t, "Lean of half the Period", b, e, []int{1, 5, 5, 5, 5, 5}, []int{13, 13, 9, 13, 9, 13})
	b, e = lathe.Hide(sheetOf(6, 20, 2, 1, 3), exampleScreen, yes(".xxxxx", "xx.x.x"))
	are(t, "one less", b, e, []int{1, 4, 5, 5, 5, 5}, []int{13, 12, 9, 12, 9, 12})
	b, e = lathe.Hide(sheetOf(6, 20, 2, 1, 0), exampleScreen, yes(".xxxxx", "xxxxxx"))
	are(t, "no Lean", b, e, flats(6, 1, 13)...)
}

// TestHalves: P7.4, half of the Period just at the Weight and one less, just at the room and one more, with even and odd Periods, which are rounded down.
func TestHalves(t *testing.T) {
	for _, x := range []struct {
		weight, clear, period int
		want                  api.Errno
	}{
		{3, 0, 6, api.OK}, {3, 0, 7, api.OK}, {3, 0, 5, api.ErrHidden}, {3, 0, 4, api.ErrHidden}, {3, 0, 3, api.ErrHidden}, {3, 0, 2, api.ErrInk}, {1, 0, 2, api.OK}, {1, 0, 3, api.OK}, {2, 0, 3, api.ErrHidden}, {2, 0, 4, api.OK},
		{3, 2, 10, api.OK}, {3, 2, 9, api.OK}, {3, 3, 10, api.ErrHidden}, {3, 3, 9, api.ErrHidden}, {3, 3, 11, api.OK}, {3, 3, 12, api.OK}, {3, 2, 8, api.ErrHidden}, {3, 1, 8, api.OK}, {3, 1, 7, api.OK}, {3, 1, 6, api.ErrHidden},
		{8, 0, 16, api.OK}, {8, 0, 15, api.ErrHidden}, {8, 1, 16, api.ErrHidden}, {8, 8, 16, api.ErrHidden}, {8, 9, 16, api.ErrInk}, {1, 7, 16, api.OK}, {1, 8, 16, api.ErrHidden}, {1, 7, 15, api.OK}, {1, 8, 15, api.ErrHidden}, {1, 1, 2, api.ErrHidden}, {1, 2, 2, api.ErrInk},
	} {
		s, c := sheetOf(4, 60, x.weight, x.clear, 8), screenOf(x.period, 1)
		rows := rowsOf(s, c)
		mask := make([][]bool, len(rows))
		for i := range mask {
			mask[i] = yes("x..x")[0]
		}
		b, e := lathe.Hide(s, c, mask)
		ends(t, x, b, e, x.want)
		if e != api.OK {
			mask[0] = nil // of which there is nothing to be said yet
			b, e := lathe.Hide(s, c, mask)
			fails(t, x, b, e, x.want)
			continue
		}
		for i, line := range b {
			half := (x.period - x.period%2) / 2
			if want := []int{rows[i] + half, rows[i], rows[i], rows[i] + half}; !slices.Equal(line, want) {
				t.Error(x, b)
			}
		}
	}
}

// TestHideErrors: P7.4, Room's error before ErrHidden, and ErrHidden before ErrArg for masks of a wrong shape.
func TestHideErrors(t *testing.T) {
	fine := yes("..xxx.", "......")
	for _, x := range []struct {
		c    api.Screen
		mask [][]bool
		want api.Errno
	}{
		{exampleScreen, fine, api.OK}, {exampleScreen, nil, api.ErrArg}, {exampleScreen, fine[:1], api.ErrArg}, {exampleScreen, yes("......", "......", "......"), api.ErrArg}, {exampleScreen, make([][]bool, 2), api.ErrArg}, {exampleScreen, make([][]bool, 1000), api.ErrArg},
		{exampleScreen, yes("..xxx", "......"), api.ErrArg}, {exampleScreen, yes("..xxx..", "......"), api.ErrArg}, {exampleScreen, yes("..xxx.", "....."), api.ErrArg}, {exampleScreen, yes("..xxx.", "......."), api.ErrArg}, {exampleScreen, yes("..xxx.", ""), api.ErrArg}, {exampleScreen, yes("..xxx.......", ""), api.ErrArg},
		{screenOf(16, 15), nil, api.OK}, {screenOf(16, 15), [][]bool{}, api.OK}, {screenOf(16, 15), fine, api.ErrArg}, {screenOf(16, 15), [][]bool{nil}, api.ErrArg},
		{screenOf(2, 0), fine, api.ErrInk}, {screenOf(2, 0), nil, api.ErrInk}, {screenOf(2, 2), fine, api.ErrArg}, {screenOf(3, 0), fine, api.ErrHidden}, {screenOf(3, 0), nil, api.ErrHidden}, {screenOf(17, 0), fine, api.ErrArg}, {screenOf(3, 3), nil, api.ErrArg},
		{screenOf(4, 0), nil, api.ErrHidden}, {screenOf(5, 0), nil, api.ErrArg}, {screenOf(5, 0), yes("......", "xxxxxx", "......", "xxxxxx"), api.OK}, // room 2
	} {
		b, e := lathe.Hide(example, x.c, x.mask)
		ends(t, x, b, e, x.want)
	}
}

// wishesOf returns the wishes that hide a mask.
func wishesOf(c api.Screen, mask [][]bool) [][]int {
	var wish [][]int
	for _, l := range mask {
		var line []int
		for _, is := range l {
			line = append(line, map[bool]int{true: (c.Period - c.Period%2) / 2}[is])
		}
		wish = append(wish, line)
	}
	return wish
}

// inColumns returns how many dots of a sheet are ink in each column.
func inColumns(s api.Sheet, dots []bool) []int {
	sums := make([]int, s.Cols)
	for i, is := range dots {
		if is {
			sums[i%s.Cols]++
		}
	}
	return sums
}

// TestHidden: P7.4, P7.6 and P7.8, random masks: they are hidden by the drawing, which is a band; each column has as much ink as any other, with the mask or without.
func TestHidden(t *testing.T) {
	r := rand.New(rand.NewSource(79))
	for range 3000 {
		s, c := randomHiding(r)
		n := len(rowsOf(s, c))
		mask := randomMask(r, n, s.Cols)
		b, e := lathe.Hide(s, c, mask)
		are(t, mask, b, e, drawingOf(s, c, wishesOf(c, mask))...)
		if e := lathe.Check(s, b); e != api.OK || !isBand(s, b) {
			t.Fatal(s, c, b, e)
		}
		plain, e := lathe.Draw(s, c, flats(s.Cols, all(n, 0)...))
		for _, band := range []api.Band{b, must(t, plain, e)} {
			dots, e := lathe.Ink(s, band)
			if sums := inColumns(s, must(t, dots, e)); !slices.Equal(sums, all(s.Cols, s.Weight*n)) {
				t.Fatal(s, c, band, sums)
			}
		}
	}
}

// TestThrough: P7.9, random masks: through the screen, half of the Period below, nothing is seen where the mask is no. If Lean is at least half of the Period, just the mask is seen, and, without moving the screen, just where it is no.
func TestThrough(t *testing.T) {
	r := rand.New(rand.NewSource(80))
	exact, lost := 0, 0
	for range 3000 {
		s, c := randomHiding(r)
		mask := randomMask(r, len(rowsOf(s, c)), s.Cols)
		b, e := lathe.Hide(s, c, mask)
		seen, e := lathe.Seen(s, must(t, b, e), c, c.Period/2)
		below := must(t, seen, e)
		seen, e = lathe.Seen(s, b, c, 0)
		there := must(t, seen, e)
		for i, l := range mask {
			for col, is := range l {
				if !is && (below[i][col] || !there[i][col]) {
					t.Fatal(s, c, mask, b, i, col)
				}
				if s.Lean >= c.Period/2 && (below[i][col] != is || there[i][col] == is) {
					t.Fatal(s, c, mask, b, i, col)
				}
				if is && !below[i][col] {
					lost++
				}
			}
		}
		if s.Lean >= c.Period/2 {
			exact++
		}
	}
	if exact < 300 || lost < 300 {
		t.Error("only", exact, lost)
	}
}

// costOf returns the columns that leaning costs at an edge, as the chapter has it.
func costOf(s api.Sheet, c api.Screen) int { return (c.Period/2 - s.Weight) / s.Lean }

// readThrough returns what is spelled of a word that is hidden, and seen through the screen, half of the Period below.
func readThrough(t *testing.T, s api.Sheet, c api.Screen, word []int, size int) []int {
	t.Helper()
	mask, e := lathe.Mask(word, size, s.Cols, len(rowsOf(s, c)))
	b, e := lathe.Hide(s, c, must(t, mask, e))
	seen, e := lathe.Seen(s, must(t, b, e), c, c.Period/2)
	l, e := lathe.Spell(must(t, seen, e), size, len(word))
	return must(t, l, e)
}

// hidings yields all sheets and screens by which a word can be hidden in lines that may lean; their Cols, Rows and Phase are random.
func hidings(r *rand.Rand) func(yield func(api.Sheet, api.Screen) bool) {
	return func(yield func(api.Sheet, api.Screen) bool) {
		for period := 2; period <= 12; period++ {
			for weight := 1; weight <= period/2; weight++ {
				for clear := 0; period/2 <= period-weight-clear; clear++ {
					for lean := 1; lean <= 8; lean++ {
						s, c := sheetOf(34+r.Intn(7), 60-r.Intn(3), weight, clear, lean), screenOf(period, r.Intn(period))
						if len(rowsOf(s, c)) >= 5 && !yield(s, c) {
							return
						}
					}
				}
			}
		}
	}
}

// TestHiddenWords: P7.10, words that are hidden are spelled from what is seen through the screen, if the size is more than 4 times what leaning costs at an edge.
func TestHiddenWords(t *testing.T) {
	r := rand.New(rand.NewSource(81))
	costs := map[int]int{}
	for s, c := range hidings(r) {
		for size := 4*costOf(s, c) + 1; 3*size <= s.Cols; size++ {
			word := randomWord(r, 1+r.Intn(min(8, (s.Cols/size+1)/4)))
			costs[costOf(s, c)]++
			if got := readThrough(t, s, c, word, size); !slices.Equal(got, word) {
				t.Fatal(s, c, size, word, got)
			}
		}
	}
	if costs[0] < 1000 || costs[1] < 300 || costs[2] < 50 || costs[3] == 0 {
		t.Error("only", costs)
	}
}

// TestSmallWords: P7.10, with a size of just 4 times what leaning costs, half of a cell with a no on both of its sides is lost, and the cell with it.
func TestSmallWords(t *testing.T) {
	s, c := sheetOf(40, 60, 1, 1, 2), screenOf(8, 0) // 3/2, rounded down, columns at an edge
	for size, want := range map[int]int{4: 0, 5: 0o22222} {
		if got := readThrough(t, s, c, []int{0o22222}, size); !slices.Equal(got, []int{want}) {
			t.Error(size, got)
		}
	}
	// At the edge of the sheet nothing is lost.
	if got := readThrough(t, s, c, []int{0o40404}, 4); !slices.Equal(got, []int{0o40404}) {
		t.Error(got)
	}
}
