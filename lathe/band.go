package lathe

import "barleycorn/api"

// Check returns ErrInk unless lists are a band (P7.1).
func Check(s api.Sheet, b api.Band) api.Errno {
	if e := CheckSheet(s); e != api.OK {
		return e
	}
	if clashes, e := Clashes(s, b); e != api.OK || len(clashes) > 0 {
		return api.ErrInk
	}
	return api.OK
}

// Clashes returns the lines that come too near to the next one (P7.1).
func Clashes(s api.Sheet, b api.Band) ([]api.Clash, api.Errno) {
	if e := CheckSheet(s); e != api.OK {
		return nil, e
	}
	if len(b) > api.MaxLines {
		return nil, api.ErrMany
	}
	if !areAll(b, sheet(s).isLine) {
		return nil, api.ErrArg
	}
	var clashes []api.Clash
	for upper := range len(b) - 1 {
		lower := upper + 1
		if col := sheet(s).clash(b[upper], b[lower]); col >= 0 {
			clashes = append(clashes, api.Clash{Upper: upper, Lower: lower, Col: col})
		}
	}
	return clashes, api.OK
}

// clash returns the first column in which a line comes too near to the one below it; -1 if there is none.
func (s sheet) clash(upper, lower []int) int {
	for col, edge := range upper {
		if lower[col]-edge < s.Weight+s.Clear {
			return col
		}
	}
	return -1
}

// Between returns n lines, evenly from one line to another one (P7.3).
func Between(s api.Sheet, top, bottom []int, n int) (api.Band, api.Errno) {
	if e := checkCurves(s, top, bottom); e != api.OK {
		return nil, e
	}
	if !areWithin(2, api.MaxLines, n) {
		return nil, api.ErrArg
	}
	b := make(api.Band, n)
	for i := range b {
		b[i] = part(top, bottom, i, n-1)
	}
	if e := Check(s, b); e != api.OK {
		return nil, e
	}
	return b, api.OK
}

// Most returns how many lines fit evenly between two others (P7.3).
func Most(s api.Sheet, top, bottom []int) (int, api.Errno) {
	if e := checkCurves(s, top, bottom); e != api.OK {
		return 0, e
	}
	for n := api.MaxLines; n >= 2; n-- {
		if _, e := Between(s, top, bottom, n); e == api.OK {
			return n, api.OK
		}
	}
	return 0, api.ErrInk
}

// checkCurves returns the errors that Between and Most have in common.
func checkCurves(s api.Sheet, top, bottom []int) api.Errno {
	if e := CheckSheet(s); e != api.OK {
		return e
	}
	if !sheet(s).isLine(top) || !sheet(s).isLine(bottom) {
		return api.ErrArg
	}
	for col, edge := range top {
		if bottom[col] < edge {
			return api.ErrArg
		}
	}
	return api.OK
}

// part returns the line that has gone num / den of the way from top to bottom, which is nowhere above it.
func part(top, bottom []int, num, den int) []int {
	line := make([]int, len(top))
	for col, edge := range top {
		line[col] = edge + num*(bottom[col]-edge)/den
	}
	return line
}
