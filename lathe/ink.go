package lathe

import (
	"slices"

	"barleycorn/api"
)

// Ink returns which dots are ink, row by row (P7.2).
func Ink(s api.Sheet, b api.Band) ([]bool, api.Errno) {
	if e := Check(s, b); e != api.OK {
		return nil, e
	}
	var dots []bool
	for row := range s.Rows {
		dots = append(dots, sheet(s).inkIn(row, b)...)
	}
	return dots, api.OK
}

// Seen returns what is seen through the lines of a screen that is moved down (P7.5).
func Seen(s api.Sheet, b api.Band, c api.Screen, by int) ([][]bool, api.Errno) {
	if e := Check(s, b); e != api.OK {
		return nil, e
	}
	if !isScreen(c) || !areWithin(0, c.Period-1, by) {
		return nil, api.ErrArg
	}
	var seen [][]bool
	for _, row := range sheet(s).rows(c) {
		seen = append(seen, sheet(s).inkIn(row+by, b))
	}
	return seen, api.OK
}

// inkIn returns which dots of a row are ink.
func (s sheet) inkIn(row int, b api.Band) []bool {
	dots := make([]bool, s.Cols)
	for _, line := range b {
		dots = s.marked(dots, row, line)
	}
	return dots
}

// marked returns a copy of the dots of a row in which also those of a line are marked.
func (s sheet) marked(dots []bool, row int, line []int) []bool {
	dots = slices.Clone(dots)
	for col, edge := range line {
		if areWithin(edge, edge+s.Weight-1, row) {
			dots[col] = true
		}
	}
	return dots
}
