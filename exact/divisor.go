package exact

import "math/bits"

// divisor returns the greatest common divisor of two numbers (0 if both are 0), if it has at least so many bits. (Each rest on the way is a multiple of it, so that a rest with fewer bits ends the search early, however large the numbers are.)
func divisor(a, b natural, least int) (natural, bool) {
	if a.compare(b) < 0 {
		a, b = b, a
	}
	for len(b) > 1 {
		if b.bits() < least {
			return nil, false
		}
		if s := foresee(a, b); s.cross[0] != 0 {
			a, b = s.apply(a, b)
		} else {
			_, rest := a.over(b)
			a, b = b, rest
		}
	}
	if len(b) == 1 {
		_, rest := a.overWord(b[0])
		a = fromWord(wordDivisor(b[0], rest))
	}
	return a, a.bits() >= least
}

// wordDivisor returns the greatest common divisor of two words.
func wordDivisor(a, b uint64) uint64 {
	for b != 0 {
		a, b = b, a%b
	}
	return a
}

// coprime reports whether no number above 1 divides both of two numbers; not so if both are 0.
func coprime(a, b natural) bool {
	g, _ := divisor(a, b, 0)
	return g.isOne()
}

// steps is some steps of Euclid's algorithm in one: straight times the same number less cross times the other one, or the other way around if odd.
type steps struct {
	straight, cross [2]uint64
	odd             bool
}

// foresee returns the steps of Euclid's algorithm that the highest 64 bits of two numbers decide for certain (Collins' condition); a is at least b, and both have more than one word.
func foresee(a, b natural) steps {
	shift := a.bits() - 64
	high, low := a.down(shift).word(0), b.down(shift).word(0)
	// u and v say what high and low are made of; without their signs, which alternate.
	var u0, u1, u2, v0, v1, v2 uint64 = 0, 1, 0, 0, 0, 1
	odd := true
	for low >= v2 && high-low >= v1+v2 {
		q, rest := bits.Div64(0, high, low)
		high, low = low, rest
		u0, u1, u2 = u1, u2, u1+q*u2
		v0, v1, v2 = v1, v2, v1+q*v2
		odd = !odd
	}
	return steps{straight: [2]uint64{u0, v1}, cross: [2]uint64{v0, u1}, odd: odd}
}

// apply returns what becomes of a and b.
func (s steps) apply(a, b natural) (natural, natural) {
	wide := make(natural, len(a))
	copy(wide, b)
	if s.odd {
		return lessTimes(wide, s.cross[0], a, s.straight[0]), lessTimes(a, s.cross[1], wide, s.straight[1])
	}
	return lessTimes(a, s.straight[0], wide, s.cross[0]), lessTimes(wide, s.straight[1], a, s.cross[1])
}

// lessTimes returns a * p - b * q, which is from 0 on and has no more words than a and b have.
func lessTimes(a natural, p uint64, b natural, q uint64) natural {
	rest := make(natural, len(a))
	var up, down, borrow uint64
	for i := range a {
		var plus, minus, c uint64
		high, low := bits.Mul64(a[i], p)
		plus, c = bits.Add64(low, up, 0)
		up = high + c
		high, low = bits.Mul64(b[i], q)
		minus, c = bits.Add64(low, down, 0)
		down = high + c
		rest[i], borrow = bits.Sub64(plus, minus, borrow)
	}
	return trimmed(rest)
}
