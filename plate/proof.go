package plate

import (
	"slices"

	"barleycorn/api"
	"barleycorn/lathe"
)

// Proof returns the dots of a proof (P8.5).
func Proof(s api.Sheet, b api.Band, grow int, mirror bool) ([]bool, api.Errno) {
	ink, e := lathe.Ink(s, b)
	if e != api.OK {
		return nil, e
	}
	if !isWithin(0, api.MaxGrow, grow) {
		return nil, api.ErrArg
	}
	dots := grown(s, ink, grow)
	if mirror {
		for row := range slices.Chunk(dots, s.Cols) {
			slices.Reverse(row)
		}
	}
	return dots, api.OK
}

// grown returns dots of ink together with all that are at most so many rows above or below one of these.
func grown(s api.Sheet, ink []bool, grow int) []bool {
	dots := make([]bool, len(ink))
	for i, is := range ink {
		if !is {
			continue
		}
		row, col := i/s.Cols, i%s.Cols
		for near := max(0, row-grow); near <= min(s.Rows-1, row+grow); near++ {
			dots[near*s.Cols+col] = true
		}
	}
	return dots
}

// Gap returns the gap of a band (P8.5).
func Gap(s api.Sheet, b api.Band) (int, api.Errno) {
	if e := lathe.Check(s, b); e != api.OK {
		return 0, e
	}
	if len(b) < 2 {
		return 0, api.ErrNone
	}
	gap := s.Rows
	for upper, lower := range b[1:] {
		for col, edge := range lower {
			gap = min(gap, edge-b[upper][col]-s.Weight)
		}
	}
	return gap, api.OK
}

// Lasts returns how many impressions a band lasts (P8.5).
func Lasts(s api.Sheet, b api.Band, per int) (int, api.Errno) {
	gap, e := Gap(s, b)
	if e != api.OK {
		return 0, e
	}
	if !isWithin(1, api.MaxPer, per) {
		return 0, api.ErrArg
	}
	if gap == 0 {
		return 0, api.ErrNone
	}
	// Both lines grow into the gap, and one dot of paper has to be left of it.
	most := (gap - 1) / 2
	return (most+1)*per - 1, api.OK
}
