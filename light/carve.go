package light

import (
	"math/bits"

	"barleycorn/api"
	"barleycorn/groove"
)

// Carve returns the surface into which a work is carved (P6.3).
func Carve(w api.Work, first api.Spot, pitch, width, height int) (api.Surface, api.Errno) {
	if e := groove.Check(w); e != api.OK {
		return api.Surface{}, e
	}
	furrows := furrowsOf(w)
	if !isSpot(first) || !areWithin(1, api.MaxPitch, pitch) || !areWithin(2, api.MaxSide, width, height) || areTooDeep(furrows) {
		return api.Surface{}, api.ErrArg
	}
	// All points lie between the first and the last one.
	if last := (api.Spot{X: first.X + (width-1)*pitch, Y: first.Y + (height-1)*pitch}); !isSpot(last) {
		return api.Surface{}, api.ErrNone
	}
	s := api.Surface{W: width, H: height, Pitch: pitch}
	for y := range height {
		for x := range width {
			p := api.Spot{X: first.X + x*pitch, Y: first.Y + y*pitch}
			s.Heights = append(s.Heights, -deepest(furrows, p))
		}
	}
	return s, api.OK
}

// isSpot reports whether a place is a spot.
func isSpot(p api.Spot) bool { return areWithin(-api.MaxSpot, api.MaxSpot, p.X, p.Y) }

// A furrow is a cut with the tool that makes it, and its high depth.
type furrow struct {
	api.Tool
	line []api.Spot
	high int
}

// furrowsOf returns what the tool makes of each cut of a valid work.
func furrowsOf(w api.Work) []furrow {
	furrows := make([]furrow, len(w.Cuts))
	for i, cut := range w.Cuts {
		_, high, _ := groove.Depth(w.Tool, cut.Press) // a valid work gives no error
		furrows[i] = furrow{w.Tool, cut.Spots, high}
	}
	return furrows
}

// areTooDeep reports whether one of some furrows is deeper than a surface may be.
func areTooDeep(furrows []furrow) bool {
	for _, f := range furrows {
		if f.high > api.MaxHeight {
			return true
		}
	}
	return false
}

// deepest returns the greatest depth that one of some furrows has at a spot; 0 if none has any.
func deepest(furrows []furrow, p api.Spot) int {
	depth := 0
	for _, f := range furrows {
		depth = max(depth, f.depth(p))
	}
	return depth
}

// depth returns how deep a furrow is at a spot; 0 if it does not come so far.
func (f furrow) depth(p api.Spot) int {
	far, _ := groove.Distance(f.line, []api.Spot{p}) // a line and a spot give no error
	for depth := f.high; depth > 0; depth-- {
		if isWithin(far, f.Tip*f.Den+(f.high-depth)*f.Num, f.Den) {
			return depth
		}
	}
	return 0
}

// isWithin reports whether a distance, of which far is the square, is at most num / den.
func isWithin(far api.Square, num, den int) bool {
	// The products may have more than 64 bits.
	high, low := bits.Mul64(uint64(far.Num), uint64(den*den))
	mostHigh, mostLow := bits.Mul64(uint64(num*num), uint64(far.Den))
	return high < mostHigh || high == mostHigh && low <= mostLow
}
