package light

import (
	"cmp"

	"barleycorn/api"
)

// maxDen is the greatest denominator of shades that are compared or read.
const maxDen = 1000000000

// Bright returns the shade of a facet (P6.1).
func Bright(t api.Tilt, pitch int, l api.Light) (api.Shade, api.Errno) {
	if !isTilt(t) || !areWithin(1, api.MaxPitch, pitch) {
		return api.Shade{}, api.ErrArg
	}
	if e := CheckLight(l); e != api.OK {
		return api.Shade{}, e
	}
	return bright(t, pitch, l), api.OK
}

// Compare returns -1, 0 or 1 for a lesser, equal or greater shade (P6.1).
func Compare(a, b api.Shade) int {
	if !isShade(a) || !isShade(b) {
		return 0
	}
	return cmp.Compare(a.Num*b.Den, b.Num*a.Den)
}

// bright returns the shade of a facet with a valid tilt.
func bright(t api.Tilt, pitch int, l api.Light) api.Shade {
	// The lamp is behind a facet whose product with the light is below 0.
	facing := max(2*pitch*l.Z-l.X*t.X-l.Y*t.Y, 0)
	normal := t.X*t.X + t.Y*t.Y + 4*pitch*pitch
	direction := l.X*l.X + l.Y*l.Y + l.Z*l.Z
	return lowest(facing*facing, normal*direction)
}

// lowest returns a shade in lowest terms.
func lowest(num, den int) api.Shade {
	g := divisor(num, den)
	return api.Shade{Num: num / g, Den: den / g}
}

// isShade reports whether a shade is from 0 to 1, with a denominator that is not too large.
func isShade(s api.Shade) bool {
	return areWithin(1, maxDen, s.Den) && areWithin(0, s.Den, s.Num)
}

// divisor returns the greatest common divisor of two numbers that are not below 0.
func divisor(a, b int) int {
	for b != 0 {
		a, b = b, a%b
	}
	return a
}
