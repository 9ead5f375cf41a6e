package lathe

import (
	"iter"
	"slices"

	"barleycorn/api"
)

// Room returns the number of lines of a screen, and its room (P7.4).
func Room(s api.Sheet, c api.Screen) (lines, room int, e api.Errno) {
	if e := CheckSheet(s); e != api.OK {
		return 0, 0, e
	}
	if !isScreen(c) {
		return 0, 0, api.ErrArg
	}
	room = c.Period - s.Weight - s.Clear
	if room < 0 {
		return 0, 0, api.ErrInk
	}
	for range sheet(s).rows(c) {
		lines++
	}
	return lines, room, api.OK
}

// Draw returns the drawing of wishes (P7.4).
func Draw(s api.Sheet, c api.Screen, wish [][]int) (api.Band, api.Errno) {
	lines, room, e := Room(s, c)
	if e != api.OK {
		return nil, e
	}
	isWish := func(l []int) bool { return len(l) == s.Cols && areWithin(0, room, l...) }
	if len(wish) != lines || !areAll(wish, isWish) {
		return nil, api.ErrArg
	}
	b := make(api.Band, lines)
	for i, row := range sheet(s).rows(c) {
		b[i] = sheet(s).allowed(wish[i])
		for col := range b[i] {
			b[i][col] += row
		}
	}
	return b, api.OK
}

// Hide returns the band by which a mask is hidden (P7.4).
func Hide(s api.Sheet, c api.Screen, mask [][]bool) (api.Band, api.Errno) {
	lines, room, e := Room(s, c)
	if e != api.OK {
		return nil, e
	}
	half := c.Period / 2
	if !areWithin(s.Weight, room, half) {
		return nil, api.ErrHidden
	}
	if len(mask) != lines || !areAll(mask, func(l []bool) bool { return len(l) == s.Cols }) {
		return nil, api.ErrArg
	}
	wish := make([][]int, lines)
	for i, l := range mask {
		wish[i] = make([]int, s.Cols)
		for col, is := range l {
			if is {
				wish[i][col] = half
			}
		}
	}
	return Draw(s, c, wish)
}

// isScreen reports whether a screen is valid.
func isScreen(c api.Screen) bool {
	return areWithin(2, api.MaxPeriod, c.Period) && areWithin(0, c.Period-1, c.Phase)
}

// rows yields the lines of a valid screen: their numbers and rows.
func (s sheet) rows(c api.Screen) iter.Seq2[int, int] {
	return func(yield func(int, int) bool) {
		for i := range api.MaxLines {
			row := c.Phase + i*c.Period
			if row+c.Period > s.Rows || !yield(i, row) {
				return
			}
		}
	}
}

// allowed returns how far the wishes of a line let it be lowered in each column.
func (s sheet) allowed(wish []int) []int {
	lowered := slices.Clone(wish)
	most := lowered[0]
	carry := func(col int) {
		lowered[col] = min(lowered[col], most)
		most = lowered[col] + s.Lean
	}
	for col := range lowered {
		carry(col)
	}
	// What is carried beyond the last column is no less than what is allowed there, so the way back may begin with it.
	for col := range slices.Backward(lowered) {
		carry(col)
	}
	return lowered
}
