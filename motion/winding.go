package motion

import (
	"barleycorn/api"
	"barleycorn/exact"
)

// winding is a polynomial x + y i with turning numbers as coefficients.
type winding struct{ x, y []api.Frac }

// plus returns a + b.
func (a winding) plus(b winding) winding { return winding{x: total(a.x, b.x), y: total(a.y, b.y)} }

// times returns a * b.
func (a winding) times(b winding) winding {
	return winding{
		x: difference(product(a.x, b.x), product(a.y, b.y)),
		y: total(product(a.x, b.y), product(a.y, b.x)),
	}
}

// norm returns the polynomial whose values are the norms of those of a.
func (a winding) norm() []api.Frac { return total(product(a.x, a.x), product(a.y, a.y)) }

// constant returns the polynomial whose value is c everywhere.
func constant(c api.Frac) []api.Frac {
	if len(c.Num.Groups) == 0 {
		return nil
	}
	return []api.Frac{c}
}

// total returns p + q.
func total(p, q []api.Frac) []api.Frac { return sure(exact.AddPoly(p, q)) }

// product returns p * q.
func product(p, q []api.Frac) []api.Frac { return sure(exact.MulPoly(p, q)) }

// difference returns p - q.
func difference(p, q []api.Frac) []api.Frac {
	return total(p, product(constant(exact.FromInt(-1)), q))
}

// neverNegative reports whether a polynomial has no value below 0.
func neverNegative(p []api.Frac) bool {
	if len(p) == 0 {
		return true
	}
	// Its sign changes at the roots that it has an odd number of times, and far away it is that of the last coefficient.
	return !p[len(p)-1].Num.Neg && sure(exact.Roots(oddFactor(p))) == 0
}

// oddFactor returns a polynomial with the roots that p has an odd number of times, each once; p is not 0.
func oddFactor(p []api.Frac) []api.Frac {
	if len(p) == 1 {
		return constant(exact.FromInt(1))
	}
	// What p has m times, common has m - 1 times, and single has once: so what common has an odd number of times has to go from single.
	common := sure(exact.Gcd(p, slopeOf(p)))
	single := quotient(p, common)
	return quotient(single, oddFactor(common))
}

// slopeOf returns the derivative of a polynomial.
func slopeOf(p []api.Frac) []api.Frac {
	var slope []api.Frac
	for i, c := range p {
		if i > 0 {
			slope = append(slope, sure(exact.Mul(c, exact.FromInt(i))))
		}
	}
	return slope
}

// quotient returns p / q; q divides p.
func quotient(p, q []api.Frac) []api.Frac {
	whole, _, _ := exact.DivPoly(p, q)
	return whole
}
