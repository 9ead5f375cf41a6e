package exact

import (
	"iter"
	"math/bits"
	"slices"
)

// primeBits says how large the primes are: above 2^primeBits, and below twice as much.
const primeBits = 61

// witnesses are enough to tell all primes below 2^64 from other numbers.
var witnesses = [...]uint64{2, 3, 5, 7, 11, 13, 17, 19, 23, 29, 31, 37}

// prime is a modulus; what is computed with it is from 0 to itself less 1.
type prime uint64

// primes yields the primes from 2^62 down to 2^61. (No call takes all of them: there are more than 10^16.)
func primes() iter.Seq[prime] {
	return func(yield func(prime) bool) {
		for n := uint64(2)<<primeBits - 1; n > 1<<primeBits; n -= 2 {
			if isPrime(n) && !yield(prime(n)) {
				return
			}
		}
	}
}

// isPrime reports whether an odd number above 37 is a prime.
func isPrime(n uint64) bool {
	for _, w := range witnesses {
		if n%w == 0 {
			return false
		}
	}
	for _, w := range witnesses {
		if !passes(n, w) {
			return false
		}
	}
	return true
}

// passes reports whether n is a prime as far as one witness knows (by the test of Miller and Rabin).
func passes(n, witness uint64) bool {
	halvings := bits.TrailingZeros64(n - 1)
	x := prime(n).power(witness, (n-1)>>halvings)
	if x == 1 || x == n-1 {
		return true
	}
	for range halvings - 1 {
		x = prime(n).times(x, x)
		if x == n-1 {
			return true
		}
	}
	return false
}

// times returns a * b.
func (m prime) times(a, b uint64) uint64 {
	high, low := bits.Mul64(a, b)
	_, rest := bits.Div64(high, low, uint64(m))
	return rest
}

// minus returns a - b.
func (m prime) minus(a, b uint64) uint64 {
	if a < b {
		return a + uint64(m) - b
	}
	return a - b
}

// power returns the n-th power of a.
func (m prime) power(a, n uint64) uint64 {
	result := uint64(1)
	for ; n > 0; n >>= 1 {
		if n&1 == 1 {
			result = m.times(result, a)
		}
		a = m.times(a, a)
	}
	return result
}

// inverse returns 1 / a; a is not 0.
func (m prime) inverse(a uint64) uint64 { return m.power(a, uint64(m)-2) }

// ofNatural returns what a number is.
func (m prime) ofNatural(n natural) uint64 {
	var rest uint64
	for _, w := range slices.Backward(n) {
		_, rest = bits.Div64(rest, w, uint64(m))
	}
	return rest
}

// of returns what a whole number is.
func (m prime) of(n whole) uint64 {
	rest := m.ofNatural(n.size)
	if n.neg {
		return m.minus(0, rest)
	}
	return rest
}

// residue is a coefficient modulo a prime.
type residue uint64

func (r residue) isZero() bool { return r == 0 }

// poly returns what a polynomial is, without its highest coefficients that are 0.
func (m prime) poly(p []whole) []residue {
	return withoutZeros(each(p, func(n whole) residue { return residue(m.of(n)) }))
}

// rest returns a multiple, not by 0, of the rest of a by b, which is not 0.
func (m prime) rest(a, b []residue) []residue {
	lead := b[len(b)-1]
	a = slices.Clone(a)
	for len(a) >= len(b) {
		top, shift := a[len(a)-1], len(a)-len(b)
		a = a[:len(a)-1]
		for i, c := range a {
			a[i] = residue(m.times(uint64(c), uint64(lead)))
		}
		for i, c := range b[:len(b)-1] {
			product := m.times(uint64(top), uint64(c))
			a[i+shift] = residue(m.minus(uint64(a[i+shift]), product))
		}
	}
	return withoutZeros(a)
}

// rests yields the rests of Euclid's algorithm that are not 0, from b on.
func (m prime) rests(a, b []residue) iter.Seq[[]residue] {
	return func(yield func([]residue) bool) {
		for len(b) > 0 && yield(b) {
			a, b = b, m.rest(a, b)
		}
	}
}
