package exact

import (
	"cmp"
	"math"
	"math/bits"
	"slices"
)

// natural is a number from 0 on, in words of 64 bits: the lowest one first, the last one not 0. A number is never changed once it is made, so numbers may share words.
type natural []uint64

// trimmed returns the number that some words make, the last of which may be 0.
func trimmed(words natural) natural {
	n := len(words)
	for n > 0 && words[n-1] == 0 {
		n--
	}
	return words[:n]
}

// fromWord returns the number that a word makes.
func fromWord(w uint64) natural { return trimmed(natural{w}) }

// isOne reports whether a number is 1.
func (a natural) isOne() bool { return len(a) == 1 && a[0] == 1 }

// bits returns how many binary digits a number has.
func (a natural) bits() int {
	if len(a) == 0 {
		return 0
	}
	return 64*len(a) - bits.LeadingZeros64(a[len(a)-1])
}

// compare returns -1, 0 or 1, if a is below b, equal to it, or above it.
func (a natural) compare(b natural) int {
	if len(a) != len(b) {
		return cmp.Compare(len(a), len(b))
	}
	for i, w := range slices.Backward(a) {
		if w != b[i] {
			return cmp.Compare(w, b[i])
		}
	}
	return 0
}

// plus returns a + b.
func (a natural) plus(b natural) natural {
	if len(a) < len(b) {
		a, b = b, a
	}
	sum := make(natural, len(a)+1)
	var carry uint64
	for i, w := range a {
		sum[i], carry = bits.Add64(w, b.word(i), carry)
	}
	sum[len(a)] = carry
	return trimmed(sum)
}

// word returns the word with an index, 0 beyond the last one.
func (a natural) word(i int) uint64 {
	if i < len(a) {
		return a[i]
	}
	return 0
}

// minus returns a - b; b is at most a.
func (a natural) minus(b natural) natural {
	rest := make(natural, len(a))
	var borrow uint64
	for i, w := range a {
		rest[i], borrow = bits.Sub64(w, b.word(i), borrow)
	}
	return trimmed(rest)
}

// times returns a * b.
func (a natural) times(b natural) natural {
	if len(a) == 0 || len(b) == 0 {
		return nil
	}
	product := make(natural, len(a)+len(b))
	for i, w := range b {
		product[i+len(a)] = addTimes(product[i:i+len(a)], a, w)
	}
	return trimmed(product)
}

// addTimes adds x times w to the words of row, which has as many as x, and returns what is carried beyond them.
func addTimes(row, x natural, w uint64) uint64 {
	var carry uint64
	for i, v := range x {
		high, low := bits.Mul64(v, w)
		var c uint64
		low, c = bits.Add64(low, carry, 0)
		high += c
		row[i], c = bits.Add64(row[i], low, 0)
		carry = high + c
	}
	return carry
}

// subTimes subtracts x times w from the words of row, which has as many as x, and returns what is borrowed from beyond them.
func subTimes(row, x natural, w uint64) uint64 {
	var borrow uint64
	for i, v := range x {
		high, low := bits.Mul64(v, w)
		var c uint64
		low, c = bits.Add64(low, borrow, 0)
		high += c
		row[i], c = bits.Sub64(row[i], low, 0)
		borrow = high + c
	}
	return borrow
}

// timesWord returns a * w + more.
func (a natural) timesWord(w, more uint64) natural {
	product := make(natural, len(a)+1)
	carry := more
	for i, v := range a {
		high, low := bits.Mul64(v, w)
		var c uint64
		product[i], c = bits.Add64(low, carry, 0)
		carry = high + c
	}
	product[len(a)] = carry
	return trimmed(product)
}

// overWord returns a / w without its part behind the point, and the rest.
func (a natural) overWord(w uint64) (natural, uint64) {
	quotient := make(natural, len(a))
	var rest uint64
	for i, v := range slices.Backward(a) {
		quotient[i], rest = bits.Div64(rest, v, w)
	}
	return trimmed(quotient), rest
}

// over returns a / b without its part behind the point, and the rest; b is not 0.
func (a natural) over(b natural) (quotient, rest natural) {
	if a.compare(b) < 0 {
		return nil, a
	}
	if len(b) == 1 {
		q, r := a.overWord(b[0])
		return q, fromWord(r)
	}
	// With the highest bit of b set, the two highest words give a digit that is too great by 2 at most.
	shift := bits.LeadingZeros64(b[len(b)-1])
	b = b.up(shift)
	words := make(natural, len(a)+1)
	copy(words, a.up(shift))
	quotient = make(natural, len(words)-len(b))
	for i := range slices.Backward(quotient) {
		quotient[i] = takeDigit(words[i:i+len(b)+1], b)
	}
	return trimmed(quotient), trimmed(words).down(shift)
}

// takeDigit subtracts b from words, which have one more than b, as often as it can, and returns how often that was.
func takeDigit(words, b natural) uint64 {
	n := len(b)
	digit := uint64(math.MaxUint64)
	if words[n] < b[n-1] {
		digit, _ = bits.Div64(words[n], words[n-1], b[n-1])
	}
	borrow := subTimes(words[:n], b, digit)
	below := words[n] < borrow
	words[n] -= borrow
	for below {
		digit--
		var carry uint64
		for i, w := range b {
			words[i], carry = bits.Add64(words[i], w, carry)
		}
		words[n], carry = bits.Add64(words[n], 0, carry)
		below = carry == 0
	}
	return digit
}

// up returns a * 2^n.
func (a natural) up(n int) natural {
	if len(a) == 0 || n == 0 {
		return a
	}
	moved := make(natural, len(a)+n/64+1)
	by := uint(n % 64)
	for i, w := range a {
		moved[i+n/64] |= w << by
		moved[i+n/64+1] = w >> (64 - by)
	}
	return trimmed(moved)
}

// down returns a / 2^n without its part behind the point.
func (a natural) down(n int) natural {
	if n == 0 {
		return a
	}
	if n >= a.bits() {
		return nil
	}
	kept := a[n/64:]
	moved := make(natural, len(kept))
	by := uint(n % 64)
	for i, w := range kept {
		moved[i] = w>>by | kept.word(i+1)<<(64-by)
	}
	return trimmed(moved)
}
