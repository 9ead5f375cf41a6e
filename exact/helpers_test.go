package exact

import (
	"math/big"
	"math/rand"
	"strings"
	"testing"

	"barleycorn/api"
)

// frac returns the fraction that has a text.
func frac(t *testing.T, text string) api.Frac {
	t.Helper()
	a, e := Parse(text)
	if e != api.OK {
		t.Fatalf("Parse(%q) gives %d", text, e)
	}
	return a
}

// turn returns the turning number whose parts have these texts.
func turn(t *testing.T, x, y string) api.Turn {
	t.Helper()
	return api.Turn{X: frac(t, x), Y: frac(t, y)}
}

// polyOf returns the polynomial whose coefficients have these texts, with spaces between them.
func polyOf(t *testing.T, texts string) []api.Frac {
	t.Helper()
	var p []api.Frac
	for _, text := range strings.Fields(texts) {
		p = append(p, frac(t, text))
	}
	return p
}

// text returns the text of a fraction that has to be valid.
func text(t *testing.T, a api.Frac) string {
	t.Helper()
	s, e := Text(a)
	if e != api.OK {
		t.Fatalf("Text(%v) gives %d", a, e)
	}
	return s
}

// turnText returns the texts of the parts of a turning number.
func turnText(t *testing.T, a api.Turn) string {
	t.Helper()
	return text(t, a.X) + " " + text(t, a.Y)
}

// polyText returns the texts of the coefficients of a polynomial that has to be valid.
func polyText(t *testing.T, p []api.Frac) string {
	t.Helper()
	if e := CheckPoly(p); e != api.OK {
		t.Fatalf("CheckPoly(%v) gives %d", p, e)
	}
	var all []string
	for _, a := range p {
		all = append(all, text(t, a))
	}
	return strings.Join(all, " ")
}

// must returns a result that has to come without an error.
func must[T any](t *testing.T, result T, e api.Errno) T {
	t.Helper()
	if e != api.OK {
		t.Fatalf("error %d", e)
	}
	return result
}

// rat returns the number of math/big that is a fraction.
func rat(t *testing.T, a api.Frac) *big.Rat {
	t.Helper()
	r, ok := new(big.Rat).SetString(text(t, a))
	if !ok {
		t.Fatalf("no number: %v", a)
	}
	return r
}

// fromRat returns the fraction that is a number of math/big, or ErrLarge.
func fromRat(t *testing.T, r *big.Rat) (api.Frac, api.Errno) {
	t.Helper()
	if len(r.Num().Text(10)) > 361 || len(r.Denom().Text(10)) > 361 {
		return api.Frac{}, api.ErrLarge
	}
	return Parse(r.RatString())
}

// nines returns a number of so many digits 9.
func nines(digits int) string { return strings.Repeat("9", digits) }

// tenTo returns 10^n.
func tenTo(n int) string { return "1" + strings.Repeat("0", n) }

// randomNatural returns a number below 10^digits, often with long runs of equal bits.
func randomNatural(r *rand.Rand, digits int) *big.Int {
	limit := new(big.Int).Exp(big.NewInt(10), big.NewInt(int64(digits)), nil)
	n := new(big.Int).Rand(r, limit)
	if r.Intn(3) == 0 {
		run := new(big.Int).Lsh(big.NewInt(1), uint(r.Intn(limit.BitLen())))
		n.Sub(run, big.NewInt(int64(r.Intn(3)-1)))
		n.Mod(n, limit)
	}
	return n.Abs(n)
}

// randomRat returns a number whose num and den have at most so many digits.
func randomRat(r *rand.Rand, numDigits, denDigits int) *big.Rat {
	num, den := randomNatural(r, numDigits), randomNatural(r, denDigits)
	if den.Sign() == 0 {
		den.SetInt64(1)
	}
	if r.Intn(2) == 0 {
		num.Neg(num)
	}
	return new(big.Rat).SetFrac(num, den)
}

// randomFrac returns a valid fraction whose num and den have at most so many digits.
func randomFrac(t *testing.T, r *rand.Rand, digits int) api.Frac {
	t.Helper()
	a, e := fromRat(t, randomRat(r, digits, digits))
	return must(t, a, e)
}

// randomPoly returns a polynomial with so many coefficients at most, some of them 0.
func randomPoly(t *testing.T, r *rand.Rand, coefs, digits int) []api.Frac {
	t.Helper()
	var p []api.Frac
	for range r.Intn(coefs + 1) {
		a := randomFrac(t, r, 1+r.Intn(digits))
		if r.Intn(4) == 0 {
			a = FromInt(0)
		}
		p = append(p, a)
	}
	for len(p) > 0 && len(p[len(p)-1].Num.Groups) == 0 {
		p = p[:len(p)-1]
	}
	return p
}

// badFracs returns fractions that are not valid.
func badFracs() map[string]api.Frac {
	one := api.Whole{Groups: []uint32{1}}
	whole := func(neg bool, groups ...uint32) api.Whole { return api.Whole{Neg: neg, Groups: groups} }
	long := func(n int) []uint32 {
		groups := make([]uint32, n)
		groups[n-1] = 1
		return groups
	}
	return map[string]api.Frac{
		"den 0":               {Num: one},
		"0 / 0":               {},
		"0 / 2":               {Den: whole(false, 2)},
		"minus 0":             {Num: whole(true), Den: one},
		"minus 0 as den":      {Num: one, Den: whole(true)},
		"den below 0":         {Num: one, Den: whole(true, 1)},
		"both below 0":        {Num: whole(true, 1), Den: whole(true, 2)},
		"last group 0":        {Num: whole(false, 0), Den: one},
		"last group 0 of two": {Num: whole(false, 5, 0), Den: one},
		"last group 0 of den": {Num: one, Den: whole(false, 1, 0)},
		"group too great":     {Num: whole(false, 1000000000), Den: one},
		"greatest group":      {Num: whole(false, 1, 1<<32-1), Den: one},
		"group of den":        {Num: one, Den: whole(false, 1000000000)},
		"not lowest":          {Num: whole(false, 2), Den: whole(false, 4)},
		"not lowest, long":    {Num: whole(true, 0, 0, 0, 3), Den: whole(false, 0, 0, 7)},
		"equal":               {Num: whole(false, 7), Den: whole(false, 7)},
		"num of 41 groups":    {Num: whole(false, long(41)...), Den: one},
		"den of 41 groups":    {Num: one, Den: whole(false, long(41)...)},
		"num of many groups":  {Num: whole(false, make([]uint32, 1000)...), Den: one},
	}
}

// second returns the error of a call with one other result.
func second[T any](_ T, e api.Errno) api.Errno { return e }

// third returns the error of a call with two other results.
func third[T any](_, _ T, e api.Errno) api.Errno { return e }
