package exact

// ball is a number that is known to lie from mid - radius to mid + radius, times 2^power.
type ball struct {
	mid    whole
	radius natural
	power  int
}

// radiusBits is how large the radius of a ball may become before digits that mean nothing are given up.
const radiusBits = 32

// precision is how many binary digits of a mid are kept. What needs no more of them stays exact, so that with enough precision all is.
type precision int

// firstPrecision is enough for short polynomials with small coefficients.
const firstPrecision precision = 128

// exactBall returns the ball of a whole number.
func (keep precision) exactBall(n whole) ball { return keep.rounded(ball{mid: n}) }

// sign returns -1 or 1, if a number is known to be below or above 0, and 0 otherwise.
func (a ball) sign() int {
	if a.mid.size.compare(a.radius) > 0 {
		return a.mid.sign()
	}
	return 0
}

// negated returns -a.
func (a ball) negated() ball { return ball{mid: a.mid.negated(), radius: a.radius, power: a.power} }

// rounded returns a ball around another one, with as many digits as are kept.
func (keep precision) rounded(a ball) ball {
	drop := max(a.mid.size.bits()-int(keep), a.radius.bits()-radiusBits)
	if drop <= 0 {
		return a
	}
	return ball{
		mid: signed(a.mid.neg, a.mid.size.down(drop)),
		// Less than 1 is lost of each, the mid and the radius.
		radius: a.radius.down(drop).plus(natural{2}),
		power:  a.power + drop,
	}
}

// times returns a * b.
func (keep precision) times(a, b ball) ball {
	farthest := b.mid.size.plus(b.radius)
	return keep.rounded(ball{
		mid:    a.mid.times(b.mid),
		radius: a.mid.size.times(b.radius).plus(a.radius.times(farthest)),
		power:  a.power + b.power,
	})
}

// plus returns a + b.
func (keep precision) plus(a, b ball) ball {
	switch {
	case a.isZero():
		return b
	case b.isZero():
		return a
	case a.power < b.power:
		a, b = b, a
	}
	lift := a.power - b.power
	return keep.rounded(ball{
		mid:    signed(a.mid.neg, a.mid.size.up(lift)).plus(b.mid),
		radius: a.radius.up(lift).plus(b.radius),
		power:  b.power,
	})
}

// isZero reports whether a number is known to be 0.
func (a ball) isZero() bool { return a.mid.isZero() && len(a.radius) == 0 }

// negativeRest returns a polynomial that is the rest of a by b, times a number below 0. The sign of the last coefficient of b is known.
func (keep precision) negativeRest(a, b []ball) []ball {
	lead := b[len(b)-1]
	flip := false
	for len(a) >= len(b) {
		top, shift := a[len(a)-1].negated(), len(a)-len(b)
		next := make([]ball, len(a)-1)
		for i := range next {
			next[i] = keep.times(a[i], lead)
			if i >= shift {
				next[i] = keep.plus(next[i], keep.times(top, b[i-shift]))
			}
		}
		a = next
		flip = flip != lead.mid.neg // each step has multiplied by lead
	}
	if flip {
		return a
	}
	return each(a, ball.negated)
}

// level returns a polynomial times a power of 2, so that its last coefficient is about 1; without it the powers would grow from rest to rest.
func level(p []ball) []ball {
	last := p[len(p)-1]
	by := last.power + last.mid.size.bits()
	return each(p, func(a ball) ball {
		a.power -= by
		return a
	})
}

// valueAt returns the value of a polynomial at num / den, times a power of den.
func (keep precision) valueAt(p []ball, num, den ball) ball {
	value, power := p[len(p)-1], ball{mid: fromInt(1)}
	for i := len(p) - 2; i >= 0; i-- {
		power = keep.times(power, den)
		value = keep.plus(keep.times(value, num), keep.times(p[i], power))
	}
	return value
}
