package exact

import "barleycorn/api"

// ratio is num / den, with a den above 0, not always in lowest terms.
type ratio struct {
	num whole
	den natural
}

// wholeRatio returns the ratio that is a whole number.
func wholeRatio(n whole) ratio { return ratio{num: n, den: natural{1}} }

// fromFrac returns the number that is a fraction, if that is valid.
func fromFrac(a api.Frac) (ratio, bool) {
	if !validWhole(a.Num) || !validWhole(a.Den) || a.Den.Neg || len(a.Den.Groups) == 0 {
		return ratio{}, false
	}
	num, den := fromGroups(a.Num.Groups), fromGroups(a.Den.Groups)
	return ratio{num: signed(a.Num.Neg, num), den: den}, coprime(num, den)
}

// lowest returns a number in lowest terms, and panics if they are larger than those of a fraction that is not too large can be.
func (a ratio) lowest() ratio {
	size := a.num.size
	// Terms that are not too large are left only if what divides both leaves largestBits of either.
	least := max(size.bits(), a.den.bits()) - largestBits
	common, enough := divisor(size, a.den, least)
	if !enough {
		panic(api.ErrLarge)
	}
	num, _ := size.over(common)
	den, _ := a.den.over(common)
	return ratio{num: signed(a.num.neg, num), den: den}
}

// frac returns the fraction that a number is, and panics if it is too large.
func (a ratio) frac() api.Frac {
	a = a.lowest()
	return api.Frac{Num: a.num.given(), Den: whole{size: a.den}.given()}
}

// sign returns -1, 0 or 1.
func (a ratio) sign() int { return a.num.sign() }

// isZero reports whether a number is 0.
func (a ratio) isZero() bool { return a.sign() == 0 }

// plus returns a + b.
func (a ratio) plus(b ratio) ratio {
	if a.den.compare(b.den) == 0 { // keeps sums of numbers with one den small
		return ratio{num: a.num.plus(b.num), den: a.den}
	}
	left := a.num.times(whole{size: b.den})
	right := b.num.times(whole{size: a.den})
	return ratio{num: left.plus(right), den: a.den.times(b.den)}
}

// negated returns -a.
func (a ratio) negated() ratio { return ratio{num: a.num.negated(), den: a.den} }

// minus returns a - b.
func (a ratio) minus(b ratio) ratio { return a.plus(b.negated()) }

// times returns a * b.
func (a ratio) times(b ratio) ratio {
	return ratio{num: a.num.times(b.num), den: a.den.times(b.den)}
}

// over returns a / b; b is not 0.
func (a ratio) over(b ratio) ratio {
	num := a.num.times(whole{size: b.den})
	return ratio{num: signed(num.neg != b.num.neg, num.size), den: a.den.times(b.num.size)}
}

// compare returns -1, 0 or 1, if a is below b, equal to it, or above it.
func (a ratio) compare(b ratio) int { return a.minus(b).sign() }

// nearest returns the whole number that is nearest to a, of two the greater one.
func (a ratio) nearest() whole {
	half := ratio{num: fromInt(1), den: natural{2}}
	a = a.plus(half)
	floor, rest := a.num.size.over(a.den)
	if a.num.neg && len(rest) > 0 {
		floor = floor.plus(natural{1})
	}
	return signed(a.num.neg, floor)
}
