package lathe_test

import (
	"math/rand"
	"slices"
	"testing"

	"barleycorn/api"
	"barleycorn/lathe"
)

// The least and the greatest int.
const (
	leastInt    = -1 << 63
	greatestInt = 1<<63 - 1
)

// sheetOf returns a sheet.
func sheetOf(cols, rows, weight, clear, lean int) api.Sheet {
	return api.Sheet{Cols: cols, Rows: rows, Weight: weight, Clear: clear, Lean: lean}
}

// screenOf returns a screen.
func screenOf(period, phase int) api.Screen { return api.Screen{Period: period, Phase: phase} }

// The sheet and the screen of the chapter's examples.
var (
	example       = sheetOf(6, 20, 2, 1, 2)
	exampleScreen = screenOf(8, 1)
)

// all returns a list of n times the same value.
func all[V any](n int, v V) []V { return slices.Repeat([]V{v}, n) }

// with returns a copy of a list with another value at an index.
func with[V any](l []V, i int, v V) []V {
	l = slices.Clone(l)
	l[i] = v
	return l
}

// flats returns lines of n columns that do not lean.
func flats(n int, edges ...int) api.Band {
	var b api.Band
	for _, edge := range edges {
		b = append(b, all(n, edge))
	}
	return b
}

// steps returns a list of n numbers, each so much more than the one before it.
func steps(n, first, by int) []int {
	var l []int
	for i := range n {
		l = append(l, first+i*by)
	}
	return l
}

// yes returns lists that are yes where texts have an x.
func yes(texts ...string) [][]bool {
	var mask [][]bool
	for _, text := range texts {
		l := []bool{}
		for _, c := range text {
			l = append(l, c == 'x')
		}
		mask = append(mask, l)
	}
	return mask
}

// areSame reports whether two lists of lists are the same.
func areSame[V comparable, L ~[][]V](a, b L) bool {
	return slices.EqualFunc(a, b, func(x, y []V) bool { return slices.Equal(x, y) })
}

// is reports an error unless a call has given a list.
func is[V comparable](t *testing.T, what any, l []V, e api.Errno, want ...V) {
	t.Helper()
	if e != api.OK || !slices.Equal(l, want) {
		t.Error(what, "gives", l, e, "want", want)
	}
}

// are reports an error unless a call has given some lists.
func are[V comparable, L ~[][]V](t *testing.T, what any, l L, e api.Errno, want ...[]V) {
	t.Helper()
	if e != api.OK || !areSame(l, want) {
		t.Error(what, "gives", l, e, "want", want)
	}
}

// fails reports an error unless a call has given an error, and no list.
func fails[V any](t *testing.T, what any, l []V, e, want api.Errno) {
	t.Helper()
	if e != want || len(l) > 0 {
		t.Error(what, "gives", l, e, "want", want)
	}
}

// ends reports an error unless a call has ended with an error, and no list beside it, or without one.
func ends[V any](t *testing.T, what any, l []V, e, want api.Errno) {
	t.Helper()
	if e != want || e != api.OK && len(l) > 0 {
		t.Error(what, "gives", l, e, "want", want)
	}
}

// must returns a result that has to come without an error.
func must[T any](t *testing.T, result T, e api.Errno) T {
	t.Helper()
	if e != api.OK {
		t.Fatalf("error %d", e)
	}
	return result
}

// around are numbers at two limits, just beyond them, and far away, with whether they are from the one to the other.
func around(least, most int) map[int]bool {
	return map[int]bool{
		least: true, most: true, least + 1: least < most, most - 1: least < most, least - 1: false, most + 1: false,
		leastInt: false, leastInt + most: false, greatestInt: false, greatestInt - most: false, least - 1000000: false, most + 1000000: false,
	}
}

// errorUnless returns OK if something is so, and an error if it is not.
func errorUnless(is bool, e api.Errno) api.Errno {
	if is {
		return api.OK
	}
	return e
}

// size returns the absolute value.
func size(n int) int { return max(n, -n) }

// isLine reports whether a list is a line, word by word as the chapter has it.
func isLine(s api.Sheet, l []int) bool {
	is := len(l) == s.Cols
	for i, edge := range l {
		is = is && edge >= 0 && edge <= s.Rows-s.Weight
		is = is && (i == 0 || edge-l[i-1] <= s.Lean && l[i-1]-edge <= s.Lean)
	}
	return is
}

// isBand reports whether lists are a band, word by word as the chapter has it.
func isBand(s api.Sheet, b api.Band) bool {
	is := len(b) <= 12
	for i, l := range b {
		is = is && isLine(s, l)
		for c := 0; is && i > 0 && c < s.Cols; c++ {
			is = l[c] >= b[i-1][c]+s.Weight+s.Clear
		}
	}
	return is
}

// inkOf returns which dots of a sheet are ink.
func inkOf(s api.Sheet, b api.Band) []bool {
	dots := make([]bool, s.Cols*s.Rows)
	for _, l := range b {
		for c, edge := range l {
			for i := range s.Weight {
				dots[(edge+i)*s.Cols+c] = true
			}
		}
	}
	return dots
}

// rowsOf returns the rows of a screen's lines.
func rowsOf(s api.Sheet, c api.Screen) []int {
	var rows []int
	for end := c.Phase + c.Period; end <= s.Rows && len(rows) < 12; end += c.Period {
		rows = append(rows, end-c.Period)
	}
	return rows
}

// roomOf returns the room of a screen.
func roomOf(s api.Sheet, c api.Screen) int { return c.Period - s.Weight - s.Clear }

// drawingOf returns the drawing of wishes, word by word as the chapter has it.
func drawingOf(s api.Sheet, c api.Screen, wish [][]int) api.Band {
	var b api.Band
	for i, row := range rowsOf(s, c) {
		line := make([]int, s.Cols)
		for col := range line {
			var lowered []int
			for k, w := range wish[i] {
				lowered = append(lowered, w+s.Lean*size(col-k))
			}
			line[col] = row + slices.Min(lowered)
		}
		b = append(b, line)
	}
	return b
}

// seenOf returns what is seen of the dots of a sheet through a screen.
func seenOf(s api.Sheet, dots []bool, c api.Screen, by int) [][]bool {
	var seen [][]bool
	for _, row := range rowsOf(s, c) {
		seen = append(seen, dots[(row+by)*s.Cols:(row+by+1)*s.Cols])
	}
	return seen
}

// bits returns the 15 bits of a glyph, the highest one first.
func bits(glyph int) []bool {
	var l []bool
	for n := 16384; n > 0; n /= 2 {
		l = append(l, glyph >= n)
		glyph %= n
	}
	return l
}

// maskOf returns the mask of a word, column by column.
func maskOf(word []int, size, cols, lines int) [][]bool {
	var mask [][]bool
	for r := range lines {
		l := make([]bool, cols)
		for c := range l {
			g, k := c/size/4, c/size%4
			l[c] = r < 5 && g < len(word) && k < 3 && bits(word[g])[3*r+k]
		}
		mask = append(mask, l)
	}
	return mask
}

// wordOf returns the glyphs that a mask says, column by column.
func wordOf(mask [][]bool, size, n int) []int {
	word := make([]int, n)
	for g := range word {
		for i, n := 0, 16384; n > 0; i, n = i+1, n/2 {
			yes, no := 0, 0
			for c, is := range mask[i/3] {
				if c/size == 4*g+i%3 && is {
					yes++
				} else if c/size == 4*g+i%3 {
					no++
				}
			}
			if yes > no {
				word[g] += n
			}
		}
	}
	return word
}

// randomSheet returns a sheet, with room for some lines more often than not.
func randomSheet(r *rand.Rand) api.Sheet {
	return sheetOf(1+r.Intn([]int{1, 3, 8, 40}[r.Intn(4)]), 1+r.Intn([]int{9, 60, 60}[r.Intn(3)]), 1+r.Intn([]int{1, 3, 8}[r.Intn(3)]), r.Intn([]int{1, 3, 21}[r.Intn(3)]), r.Intn([]int{1, 3, 9}[r.Intn(3)]))
}

// randomLine returns a line of a sheet that has any.
func randomLine(r *rand.Rand, s api.Sheet) []int {
	l := []int{r.Intn(s.Rows - s.Weight + 1)}
	for i := range s.Cols - 1 {
		edge := l[i] + r.Intn(2*s.Lean+1) - s.Lean
		l = append(l, max(0, min(s.Rows-s.Weight, edge)))
	}
	return l
}

// randomBand returns a band of a sheet. Wherever a line is too near to the one above it, it goes along it as near as may be.
func randomBand(r *rand.Rand, s api.Sheet) api.Band {
	var b api.Band
	for range r.Intn(13) {
		if s.Weight > s.Rows {
			break
		}
		l := randomLine(r, s)
		for c := range l {
			l[c] = l[c] * (len(b) + 1) / 13
			if len(b) > 0 {
				l[c] = max(l[c], b[len(b)-1][c]+s.Weight+s.Clear)
			}
		}
		if slices.Max(l) <= s.Rows-s.Weight {
			b = append(b, l)
		}
	}
	return b
}

// randomScreen returns a sheet and a screen that has at least one line on it, and a room of 0 or more.
func randomScreen(r *rand.Rand) (api.Sheet, api.Screen) {
	for {
		s, period := randomSheet(r), 2+r.Intn(15)
		c := screenOf(period, r.Intn(period))
		if roomOf(s, c) >= 0 && len(rowsOf(s, c)) > 0 {
			return s, c
		}
	}
}

// randomWishes returns so many lists of wishes.
func randomWishes(r *rand.Rand, lines, cols, room int) [][]int {
	var wish [][]int
	for range lines {
		l := make([]int, cols)
		for i := range l {
			l[i] = room
			if r.Intn(3) > 0 {
				l[i] = r.Intn(room + 1)
			}
		}
		wish = append(wish, l)
	}
	return wish
}

// randomMask returns a mask with some broad strokes.
func randomMask(r *rand.Rand, lines, cols int) [][]bool {
	var mask [][]bool
	for range lines {
		l := make([]bool, cols)
		for i := range l {
			l[i] = r.Intn(2) == 0
			if i > 0 && r.Intn(4) > 0 {
				l[i] = l[i-1]
			}
		}
		mask = append(mask, l)
	}
	return mask
}

// randomHiding returns a sheet and a screen by which a mask can be hidden in at least one line.
func randomHiding(r *rand.Rand) (api.Sheet, api.Screen) {
	for {
		s, c := randomScreen(r)
		if half := c.Period / 2; half >= s.Weight && half <= roomOf(s, c) {
			return s, c
		}
	}
}

// randomWord returns so many glyphs.
func randomWord(r *rand.Rand, n int) []int {
	word := make([]int, n)
	for i := range word {
		word[i] = r.Intn(32768)
	}
	return word
}

// drawn returns the drawing of wishes, which has to come without an error.
func drawn(t *testing.T, s api.Sheet, c api.Screen, wish [][]int) api.Band {
	t.Helper()
	b, e := lathe.Draw(s, c, wish)
	return must(t, b, e)
}
