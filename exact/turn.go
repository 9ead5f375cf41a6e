package exact

import (
	"math/bits"

	"barleycorn/api"
)

// turning is the number x + y i.
type turning struct{ x, y ratio }

// fromTurn returns the number that a turning number is, or ErrFrac.
func fromTurn(a api.Turn) (turning, api.Errno) {
	x, y, e := twoFracs(a.X, a.Y)
	return turning{x: x, y: y}, e
}

// turn returns the turning number that a number is, and panics if it is too large.
func (a turning) turn() api.Turn { return api.Turn{X: a.x.frac(), Y: a.y.frac()} }

// plus returns a + b.
func (a turning) plus(b turning) turning { return turning{x: a.x.plus(b.x), y: a.y.plus(b.y)} }

// times returns a * b.
func (a turning) times(b turning) turning {
	return turning{
		x: a.x.times(b.x).minus(a.y.times(b.y)),
		y: a.x.times(b.y).plus(a.y.times(b.x)),
	}
}

// norm returns x * x + y * y.
func (a turning) norm() ratio { return a.x.times(a.x).plus(a.y.times(a.y)) }

// over returns a / b; b is not 0.
func (a turning) over(b turning) turning {
	norm := b.norm()
	product := a.times(turning{x: b.x, y: b.y.negated()})
	return turning{x: product.x.over(norm), y: product.y.over(norm)}
}

// isZero reports whether a number is 0.
func (a turning) isZero() bool { return a.x.isZero() && a.y.isZero() }

// power returns the n-th power of a; a is not 0 if n is below 0.
func (a turning) power(n int) turning {
	// With both parts over one den only whole numbers are multiplied, and their sums stay small.
	base := turning{
		x: wholeRatio(a.x.num.times(whole{size: a.y.den})),
		y: wholeRatio(a.y.num.times(whole{size: a.x.den})),
	}
	den := whole{size: a.x.den.times(a.y.den)}
	above, below := turning{x: wholeRatio(fromInt(1)), y: wholeRatio(fromInt(0))}, fromInt(1)
	size := max(n, -n)
	for i := bits.Len(uint(size)) - 1; i >= 0; i-- {
		above, below = above.times(above), below.times(below)
		if size>>i&1 == 1 {
			above, below = above.times(base), below.times(den)
		}
	}
	under := turning{x: wholeRatio(below), y: wholeRatio(fromInt(0))}
	if n < 0 {
		return under.over(above)
	}
	return turning{x: above.x.over(under.x), y: above.y.over(under.x)}
}

// CheckTurn returns ErrFrac unless a turning number is valid (P1.4).
func CheckTurn(a api.Turn) api.Errno {
	_, e := fromTurn(a)
	return e
}

// twoTurns returns the numbers that two turning numbers are, or ErrFrac.
func twoTurns(a, b api.Turn) (x, y turning, e api.Errno) {
	if x, e = fromTurn(a); e != api.OK {
		return turning{}, turning{}, e
	}
	if y, e = fromTurn(b); e != api.OK {
		return turning{}, turning{}, e
	}
	return x, y, api.OK
}

// AddTurn returns a + b (P1.4).
func AddTurn(a, b api.Turn) (api.Turn, api.Errno) { return combinedTurns(a, b, turning.plus) }

// MulTurn returns a * b (P1.4).
func MulTurn(a, b api.Turn) (api.Turn, api.Errno) { return combinedTurns(a, b, turning.times) }

// combinedTurns returns what an operation makes of two turning numbers.
func combinedTurns(a, b api.Turn, operation func(turning, turning) turning) (api.Turn, api.Errno) {
	x, y, e := twoTurns(a, b)
	if e != api.OK {
		return api.Turn{}, e
	}
	return unlessLarge(func() api.Turn { return operation(x, y).turn() })
}

// DivTurn returns a / b (P1.4).
func DivTurn(a, b api.Turn) (api.Turn, api.Errno) {
	x, y, e := twoTurns(a, b)
	switch {
	case e != api.OK:
		return api.Turn{}, e
	case y.isZero():
		return api.Turn{}, api.ErrZero
	}
	return unlessLarge(func() api.Turn { return x.over(y).turn() })
}

// Power returns the n-th power of a turning number (P1.4).
func Power(a api.Turn, n int) (api.Turn, api.Errno) {
	x, e := fromTurn(a)
	switch {
	case e != api.OK:
		return api.Turn{}, e
	case n < -api.MaxPower || n > api.MaxPower:
		return api.Turn{}, api.ErrArg
	case n < 0 && x.isZero():
		return api.Turn{}, api.ErrZero
	}
	return unlessLarge(func() api.Turn { return x.power(n).turn() })
}

// Norm returns the norm of a turning number (P1.4).
func Norm(a api.Turn) (api.Frac, api.Errno) {
	x, e := fromTurn(a)
	if e != api.OK {
		return api.Frac{}, e
	}
	return unlessLarge(func() api.Frac { return x.norm().frac() })
}

// Around returns the turning number (den + num i) / (den - num i), whose norm is 1 (P1.4).
func Around(num, den int) (api.Turn, api.Errno) {
	if num == 0 && den == 0 {
		return api.Turn{}, api.ErrZero
	}
	x, y := wholeRatio(fromInt(den)), wholeRatio(fromInt(num))
	return turning{x: x, y: y}.over(turning{x: x, y: y.negated()}).turn(), api.OK
}
