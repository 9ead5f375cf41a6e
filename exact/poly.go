package exact

import (
	"slices"

	"barleycorn/api"
)

// CheckPoly returns an error unless a list is a valid polynomial (P1.5).
func CheckPoly(p []api.Frac) api.Errno {
	_, e := fromPoly(p)
	return e
}

// fromPoly returns the coefficients of a polynomial, or CheckPoly's error.
func fromPoly(p []api.Frac) ([]ratio, api.Errno) {
	if len(p) > api.MaxCoefs {
		return nil, api.ErrMany
	}
	valid := true
	coefs := each(p, func(a api.Frac) ratio {
		x, ok := fromFrac(a)
		valid = valid && ok
		return x
	})
	if !valid || len(withoutZeros(coefs)) < len(coefs) {
		return nil, api.ErrFrac
	}
	return coefs, api.OK
}

// twoPolys returns the coefficients of two polynomials, or the first error of CheckPoly.
func twoPolys(p, q []api.Frac) (x, y []ratio, e api.Errno) {
	if x, e = fromPoly(p); e != api.OK {
		return nil, nil, e
	}
	if y, e = fromPoly(q); e != api.OK {
		return nil, nil, e
	}
	return x, y, api.OK
}

// poly returns the polynomial with some coefficients, and panics if one of them is too large.
func poly(coefs []ratio) []api.Frac { return each(withoutZeros(coefs), ratio.frac) }

// AddPoly returns the sum of two polynomials (P1.5).
func AddPoly(p, q []api.Frac) ([]api.Frac, api.Errno) { return combinedPolys(p, q, sumOf) }

// MulPoly returns the product of two polynomials (P1.5).
func MulPoly(p, q []api.Frac) ([]api.Frac, api.Errno) { return combinedPolys(p, q, productOf) }

// combinedPolys returns what an operation makes of two polynomials.
func combinedPolys(p, q []api.Frac, operation func(x, y []ratio) []ratio) ([]api.Frac, api.Errno) {
	x, y, e := twoPolys(p, q)
	if e != api.OK {
		return nil, e
	}
	return unlessLarge(func() []api.Frac { return poly(operation(x, y)) })
}

// sumOf returns the coefficients of p + q.
func sumOf(p, q []ratio) []ratio {
	if len(p) < len(q) {
		p, q = q, p
	}
	sum := slices.Clone(p)
	for i, c := range q {
		sum[i] = sum[i].plus(c)
	}
	return sum
}

// productOf returns the coefficients of p * q, and panics if there are too many.
func productOf(p, q []ratio) []ratio {
	if len(p) == 0 || len(q) == 0 {
		return nil
	}
	if len(p)+len(q)-1 > api.MaxCoefs {
		panic(api.ErrLarge)
	}
	left, leftDen := overOneDen(p)
	right, rightDen := overOneDen(q)
	sums := make([]whole, len(p)+len(q)-1)
	for i, a := range left {
		for k, b := range right {
			sums[i+k] = sums[i+k].plus(a.times(b))
		}
	}
	den := leftDen.times(rightDen)
	return each(sums, func(n whole) ratio { return ratio{num: n, den: den} })
}

// overOneDen returns the least common multiple of the dens of some numbers, and the nums of all of them over it.
func overOneDen(list []ratio) (nums []whole, den natural) {
	den = natural{1}
	for _, a := range list {
		common, _ := divisor(den, a.den, 0)
		more, _ := a.den.over(common)
		den = den.times(more)
	}
	nums = each(list, func(a ratio) whole {
		more, _ := den.over(a.den)
		return a.num.times(whole{size: more})
	})
	return nums, den
}

// DivPoly returns the quotient and the rest of two polynomials (P1.5).
func DivPoly(p, q []api.Frac) (quotient, rest []api.Frac, e api.Errno) {
	x, y, e := twoPolys(p, q)
	switch {
	case e != api.OK:
		return nil, nil, e
	case len(y) == 0:
		return nil, nil, api.ErrZero
	}
	type pair struct{ quotient, rest []api.Frac }
	both, e := unlessLarge(func() pair {
		quotient, rest := quotientOf(x, y)
		return pair{quotient: poly(quotient), rest: poly(rest)}
	})
	return both.quotient, both.rest, e
}

// quotientOf returns the coefficients of the quotient and of the rest of p and q, which is not 0, and panics if the quotient is too large.
func quotientOf(p, q []ratio) (quotient, rest []ratio) {
	degree := len(q) - 1
	quotient = make([]ratio, max(len(p)-degree, 0))
	// left returns a coefficient of p less the product of q and what is known of the quotient.
	left := func(k, known int) ratio {
		sum := p[k]
		for i := max(known, k-degree); i < len(quotient) && i <= k; i++ {
			sum = sum.minus(quotient[i].times(q[k-i]))
		}
		return sum
	}
	for i := len(quotient) - 1; i >= 0; i-- {
		// Lowest terms at once: a coefficient that is too large ends the work before the others grow with it.
		quotient[i] = left(i+degree, i+1).over(q[degree]).lowest()
	}
	for k := range min(degree, len(p)) {
		rest = append(rest, left(k, 0))
	}
	return quotient, rest
}

// Value returns the value of a polynomial at a fraction (P1.5).
func Value(p []api.Frac, x api.Frac) (api.Frac, api.Errno) {
	coefs, e := fromPoly(p)
	if e != api.OK {
		return api.Frac{}, e
	}
	at, valid := fromFrac(x)
	if !valid {
		return api.Frac{}, api.ErrFrac
	}
	return unlessLarge(func() api.Frac {
		nums, den := overOneDen(coefs)
		return ratio{num: valueOver(nums, at), den: den.times(powerOf(at.den, len(nums)-1))}.frac()
	})
}

// valueOver returns the value of a polynomial at x, times the den of x to the power of the degree.
func valueOver(p []whole, x ratio) whole {
	var value whole
	power := fromInt(1)
	for _, c := range slices.Backward(p) {
		value = value.times(x.num).plus(c.times(power))
		power = power.times(whole{size: x.den})
	}
	return value
}

// powerOf returns the n-th power of a number, 1 if n is below 1.
func powerOf(a natural, n int) natural {
	power := natural{1}
	for range n {
		power = power.times(a)
	}
	return power
}
