package exact

import (
	"math/big"
	"math/rand"
	"testing"
)

// bigOf returns the number of math/big that a number is, and reports one that has a last word 0.
func bigOf(t *testing.T, a natural) *big.Int {
	t.Helper()
	if len(a) > 0 && a[len(a)-1] == 0 {
		t.Fatalf("last word 0: %v", a)
	}
	n := new(big.Int)
	for i := len(a) - 1; i >= 0; i-- {
		n.Lsh(n, 64)
		n.Or(n, new(big.Int).SetUint64(a[i]))
	}
	return n
}

// naturalOf returns the number that a number of math/big is.
func naturalOf(n *big.Int) natural {
	var words natural
	for rest := new(big.Int).Set(n); rest.Sign() > 0; rest.Rsh(rest, 64) {
		words = append(words, new(big.Int).And(rest, new(big.Int).SetUint64(1<<64-1)).Uint64())
	}
	return words
}

// roughNumber returns a number of at most so many words, many of which are 0 or the greatest one.
func roughNumber(r *rand.Rand, words int) *big.Int {
	n := new(big.Int)
	for range r.Intn(words + 1) {
		n.Lsh(n, 64)
		switch r.Intn(4) {
		case 0:
		case 1:
			n.Or(n, new(big.Int).SetUint64(1<<64-1))
		case 2:
			n.Or(n, new(big.Int).SetUint64(1<<uint(r.Intn(64))))
		default:
			n.Or(n, new(big.Int).SetUint64(r.Uint64()))
		}
	}
	return n
}

// TestNaturals holds what is computed with numbers of any size against math/big (P1.2, N1).
func TestNaturals(t *testing.T) {
	r := rand.New(rand.NewSource(1))
	same := func(what string, got natural, want *big.Int) {
		t.Helper()
		if bigOf(t, got).Cmp(want) != 0 {
			t.Fatalf("%s: %v, want %v", what, got, want)
		}
	}
	for range 4000 {
		x, y := roughNumber(r, 1+r.Intn(12)), roughNumber(r, 1+r.Intn(12))
		a, b := naturalOf(x), naturalOf(y)
		shift := r.Intn(200)
		if a.compare(b) != x.Cmp(y) || a.bits() != x.BitLen() {
			t.Fatal(x, y, a.compare(b), a.bits())
		}
		same("plus", a.plus(b), new(big.Int).Add(x, y))
		same("times", a.times(b), new(big.Int).Mul(x, y))
		same("up", a.up(shift), new(big.Int).Lsh(x, uint(shift)))
		same("down", a.down(shift), new(big.Int).Rsh(x, uint(shift)))
		if x.Cmp(y) >= 0 {
			same("minus", a.minus(b), new(big.Int).Sub(x, y))
		}
		if y.Sign() > 0 {
			quotient, rest := a.over(b)
			wantQuotient, wantRest := new(big.Int).QuoRem(x, y, new(big.Int))
			same("quotient", quotient, wantQuotient)
			same("rest", rest, wantRest)
		}
	}
}

// TestDivisor holds greatest common divisors against math/big, and the early end against the bits that are asked for.
func TestDivisor(t *testing.T) {
	r := rand.New(rand.NewSource(2))
	for range 3000 {
		x, y, z := roughNumber(r, 9), roughNumber(r, 9), roughNumber(r, 5)
		x.Mul(x, z)
		y.Mul(y, z)
		if x.Sign() == 0 && y.Sign() == 0 {
			continue
		}
		want := new(big.Int).GCD(nil, nil, x, y)
		a, b := naturalOf(x), naturalOf(y)
		for _, least := range []int{-5, 0, want.BitLen() - 1, want.BitLen()} {
			if got, enough := divisor(a, b, least); !enough || bigOf(t, got).Cmp(want) != 0 {
				t.Fatal(x, y, least, got, enough, want)
			}
		}
		if _, enough := divisor(a, b, want.BitLen()+1); enough {
			t.Fatal(x, y, "a divisor with more bits than there are")
		}
	}
}

// TestPrimes checks that the first moduli are primes, in order, none of them left out.
func TestPrimes(t *testing.T) {
	n := new(big.Int).Lsh(big.NewInt(1), 62)
	left := 30
	for m := range primes() {
		for n.Sub(n, big.NewInt(1)); !n.ProbablyPrime(20); n.Sub(n, big.NewInt(1)) {
		}
		if n.Uint64() != uint64(m) {
			t.Fatal(m, n)
		}
		if left--; left == 0 {
			return
		}
	}
}
