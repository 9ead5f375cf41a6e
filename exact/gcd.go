package exact

import (
	"slices"

	"barleycorn/api"
)

// Gcd returns the greatest common divisor of two polynomials (P1.5).
func Gcd(p, q []api.Frac) ([]api.Frac, api.Errno) {
	x, y, e := twoPolys(p, q)
	if e != api.OK {
		return nil, e
	}
	return unlessLarge(func() []api.Frac {
		common := commonFactor(primitive(x), primitive(y))
		if len(common) == 0 {
			return nil
		}
		lead := wholeRatio(common[len(common)-1])
		return poly(each(common, func(n whole) ratio { return wholeRatio(n).over(lead) }))
	})
}

// primitive returns the multiple of a polynomial whose coefficients are whole numbers that no number above 1 divides all.
func primitive(p []ratio) []whole {
	nums, _ := overOneDen(p)
	var content natural
	for _, n := range nums {
		content, _ = divisor(content, n.size, 0)
	}
	return each(nums, func(n whole) whole {
		part, _ := n.over(whole{size: content})
		return part
	})
}

// commonFactor returns the primitive multiple of the greatest common divisor of two polynomials (one that is alone has to be primitive). It is put together from the divisors modulo some primes: each of them has at least its degree, and what has no higher degree and divides both polynomials is the greatest one.
func commonFactor(p, q []whole) []whole {
	switch {
	case len(p) == 0:
		return q
	case len(q) == 0:
		return p
	}
	var found lifted
	for m := range primes() {
		a, b := m.poly(p), m.poly(q)
		if len(a) < len(p) || len(b) < len(q) {
			continue // a divisor of both could have lost its highest coefficient too
		}
		var common []residue
		for rest := range m.rests(a, b) {
			common = rest
		}
		if len(common) == 1 {
			break
		}
		if !found.take(m, common) {
			continue
		}
		if factor, ok := found.factor(p, q); ok {
			return factor
		}
	}
	return []whole{fromInt(1)}
}

// lifted is a monic polynomial whose coefficients are known modulo a product of primes.
type lifted struct {
	modulus natural
	coefs   []natural
	primes  int
}

// take learns what the polynomial is, times any number, modulo another prime, and reports whether it did: a degree that is greater than the one that is known is wrong, a lesser one shows that all others were.
func (l *lifted) take(m prime, common []residue) bool {
	if l.primes > 0 && len(common) > len(l.coefs) {
		return false
	}
	if len(common) < len(l.coefs) || l.primes == 0 {
		*l = lifted{modulus: natural{1}, coefs: make([]natural, len(common))}
	}
	toMonic := m.inverse(uint64(common[len(common)-1]))
	toStep := m.inverse(m.ofNatural(l.modulus))
	for i, c := range l.coefs {
		want := m.times(uint64(common[i]), toMonic)
		steps := m.times(m.minus(want, m.ofNatural(c)), toStep)
		l.coefs[i] = c.plus(l.modulus.timesWord(steps, 0))
	}
	l.modulus = l.modulus.timesWord(uint64(m), 0)
	l.primes++
	return true
}

// factor returns the primitive multiple of the polynomial, if that can be told by now, and divides p and q.
func (l *lifted) factor(p, q []whole) ([]whole, bool) {
	if l.primes&(l.primes-1) != 0 {
		return nil, false // trying at powers of two only costs less than the last try does
	}
	var coefs []ratio
	for _, c := range l.coefs {
		a, ok := l.simplest(c)
		if !ok {
			return nil, false
		}
		coefs = append(coefs, a)
	}
	factor := primitive(coefs)
	_, ofP := divided(p, factor)
	_, ofQ := divided(q, factor)
	return factor, ofP && ofQ
}

// simplest returns the only number whose num and den have less than half of the binary digits of the modulus, and that is c modulo it, if there is one.
func (l *lifted) simplest(c natural) (ratio, bool) {
	most := l.modulus.bits()/2 - 1
	a, b := l.modulus, c
	before, now, neg := natural(nil), natural{1}, false
	for b.bits() > most {
		times, rest := a.over(b)
		a, b = b, rest
		before, now, neg = now, before.plus(now.times(times)), !neg
	}
	return ratio{num: signed(neg, b), den: now}, now.bits() <= most
}

// divided returns p / q, if its coefficients are whole numbers. (If q is primitive, they are so whenever q divides p.)
func divided(p, q []whole) ([]whole, bool) {
	rest := slices.Clone(p)
	quotient := make([]whole, len(p)-len(q)+1)
	for i := range slices.Backward(quotient) {
		part, exact := rest[i+len(q)-1].over(q[len(q)-1])
		if !exact {
			return nil, false
		}
		quotient[i] = part
		for k, c := range q {
			rest[i+k] = rest[i+k].minus(part.times(c))
		}
	}
	return quotient, len(withoutZeros(rest)) == 0
}
