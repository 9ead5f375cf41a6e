// Package exact is layer 1: numbers of any size without rounding (shared/doc/01-exact.md).
package exact

import "barleycorn/api"

// CheckFrac returns ErrFrac unless a fraction is valid (P1.1).
func CheckFrac(a api.Frac) api.Errno {
	if _, valid := fromFrac(a); !valid {
		return api.ErrFrac
	}
	return api.OK
}

// twoFracs returns the numbers that two fractions are, or ErrFrac.
func twoFracs(a, b api.Frac) (x, y ratio, e api.Errno) {
	x, validX := fromFrac(a)
	y, validY := fromFrac(b)
	if !validX || !validY {
		return ratio{}, ratio{}, api.ErrFrac
	}
	return x, y, api.OK
}

// FromInt returns the fraction of a number (P1.1).
func FromInt(n int) api.Frac { return wholeRatio(fromInt(n)).frac() }

// Ratio returns the fraction num / den (P1.1).
func Ratio(num, den int) (api.Frac, api.Errno) {
	if den == 0 {
		return api.Frac{}, api.ErrZero
	}
	return wholeRatio(fromInt(num)).over(wholeRatio(fromInt(den))).frac(), api.OK
}

// Compare returns -1, 0 or 1, if a is below b, equal to it, or above it (P1.1).
func Compare(a, b api.Frac) (int, api.Errno) {
	x, y, e := twoFracs(a, b)
	if e != api.OK {
		return 0, e
	}
	return x.compare(y), api.OK
}

// Add returns a + b (P1.2).
func Add(a, b api.Frac) (api.Frac, api.Errno) { return combined(a, b, ratio.plus) }

// Sub returns a - b (P1.2).
func Sub(a, b api.Frac) (api.Frac, api.Errno) { return combined(a, b, ratio.minus) }

// Mul returns a * b (P1.2).
func Mul(a, b api.Frac) (api.Frac, api.Errno) { return combined(a, b, ratio.times) }

// combined returns what an operation makes of two fractions.
func combined(a, b api.Frac, operation func(ratio, ratio) ratio) (api.Frac, api.Errno) {
	x, y, e := twoFracs(a, b)
	if e != api.OK {
		return api.Frac{}, e
	}
	return unlessLarge(func() api.Frac { return operation(x, y).frac() })
}

// Div returns a / b (P1.2).
func Div(a, b api.Frac) (api.Frac, api.Errno) {
	x, y, e := twoFracs(a, b)
	switch {
	case e != api.OK:
		return api.Frac{}, e
	case y.isZero():
		return api.Frac{}, api.ErrZero
	}
	return unlessLarge(func() api.Frac { return x.over(y).frac() })
}

// Nearest returns the whole number that is nearest to a fraction, of two the greater one (P1.2).
func Nearest(a api.Frac) (int, api.Errno) {
	const most = 1 << 62
	x, valid := fromFrac(a)
	if !valid {
		return 0, api.ErrFrac
	}
	n := x.nearest()
	if n.size.compare(natural{most}) > 0 {
		return 0, api.ErrLarge
	}
	size := int(n.size.word(0))
	if n.neg {
		return -size, api.OK
	}
	return size, api.OK
}
