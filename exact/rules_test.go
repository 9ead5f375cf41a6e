package exact

import (
	"math/rand"
	"reflect"
	"slices"
	"testing"

	"barleycorn/api"
)

// roomy returns a copy of a list with room behind it that holds something.
func roomy[T any](list []T, filling T) []T {
	copied := append(make([]T, 0, len(list)+3), list...)
	copied = append(copied, filling, filling, filling)
	return copied[:len(list)]
}

// roomyFrac returns a fraction whose lists have room behind them.
func roomyFrac(a api.Frac) api.Frac {
	a.Num.Groups = roomy(a.Num.Groups, 77)
	a.Den.Groups = roomy(a.Den.Groups, 78)
	return a
}

// roomyPoly returns a polynomial whose lists have room behind them.
func roomyPoly(p []api.Frac) []api.Frac {
	return roomy(each(p, roomyFrac), roomyFrac(FromInt(79)))
}

// lists returns the groups of all numbers of a value, with the room behind them.
func lists(values ...any) [][]uint32 {
	var all [][]uint32
	for _, v := range values {
		switch x := v.(type) {
		case api.Frac:
			all = append(all, x.Num.Groups[:cap(x.Num.Groups)], x.Den.Groups[:cap(x.Den.Groups)])
		case api.Turn:
			all = append(all, lists(x.X, x.Y)...)
		case []api.Frac:
			for _, a := range x[:cap(x)] {
				all = append(all, lists(a)...)
			}
		}
	}
	return all
}

// snapshot returns a copy of the numbers of some lists.
func snapshot(all [][]uint32) [][]uint32 {
	return each(all, func(list []uint32) []uint32 { return append([]uint32{}, list...) })
}

// unchanged reports whether lists still hold the same numbers.
func unchanged(all, before [][]uint32) bool {
	return slices.EqualFunc(all, before, slices.Equal)
}

// shared reports whether writing to one of some lists changes one of the others.
func shared(made, others [][]uint32) bool {
	for i, list := range made {
		rest := append(append([][]uint32{}, others...), made[i+1:]...)
		before := snapshot(rest)
		for k := range list {
			list[k] ^= 1 << 31
		}
		if !unchanged(rest, before) {
			return true
		}
	}
	return false
}

// calls are all the functions with lists among their arguments or results, each with some arguments; what they return, with the error last.
func calls(a, b api.Frac, x, y api.Turn, p, q []api.Frac, n int) map[string]func() []any {
	return map[string]func() []any{
		"CheckFrac": func() []any { return []any{CheckFrac(a)} },
		"FromInt":   func() []any { return []any{FromInt(n), api.OK} },
		"Ratio":     func() []any { r, e := Ratio(n, 3); return []any{r, e} },
		"Compare":   func() []any { r, e := Compare(a, b); return []any{r, e} },
		"Add":       func() []any { r, e := Add(a, b); return []any{r, e} },
		"Sub":       func() []any { r, e := Sub(a, b); return []any{r, e} },
		"Mul":       func() []any { r, e := Mul(a, b); return []any{r, e} },
		"Div":       func() []any { r, e := Div(a, b); return []any{r, e} },
		"Nearest":   func() []any { r, e := Nearest(a); return []any{r, e} },
		"Text":      func() []any { r, e := Text(a); return []any{r, e} },
		"Parse":     func() []any { s, _ := Text(a); r, e := Parse(s); return []any{r, e} },
		"CheckTurn": func() []any { return []any{CheckTurn(x)} },
		"AddTurn":   func() []any { r, e := AddTurn(x, y); return []any{r, e} },
		"MulTurn":   func() []any { r, e := MulTurn(x, y); return []any{r, e} },
		"DivTurn":   func() []any { r, e := DivTurn(x, y); return []any{r, e} },
		"Power":     func() []any { r, e := Power(x, n); return []any{r, e} },
		"Norm":      func() []any { r, e := Norm(x); return []any{r, e} },
		"Around":    func() []any { r, e := Around(n, 5); return []any{r, e} },
		"CheckPoly": func() []any { return []any{CheckPoly(p)} },
		"AddPoly":   func() []any { r, e := AddPoly(p, q); return []any{r, e} },
		"MulPoly":   func() []any { r, e := MulPoly(p, q); return []any{r, e} },
		"DivPoly":   func() []any { r, s, e := DivPoly(p, q); return []any{r, s, e} },
		"Gcd":       func() []any { r, e := Gcd(p, q); return []any{r, e} },
		"Value":     func() []any { r, e := Value(p, a); return []any{r, e} },
		"Roots":     func() []any { r, e := Roots(p); return []any{r, e} },
		"RootsIn":   func() []any { r, e := RootsIn(p, a, b); return []any{r, e} },
	}
}

// empty reports whether a result is a zero value, or a list without elements.
func empty(v any) bool {
	if list, ok := v.([]api.Frac); ok {
		return len(list) == 0
	}
	return reflect.ValueOf(v).IsZero()
}

// checkCalls makes all calls twice, and reports results that are not zero values beside an error (R2), arguments that have changed, memory that is shared, and results that depend on earlier calls (R3).
func checkCalls(t *testing.T, a, b api.Frac, x, y api.Turn, p, q []api.Frac, n int) {
	t.Helper()
	arguments := lists(a, b, x, y, p, q)
	before := snapshot(arguments)
	for name, call := range calls(a, b, x, y, p, q, n) {
		results := call()
		if !unchanged(arguments, before) {
			t.Fatal(name, "has changed its arguments")
		}
		if again := call(); !reflect.DeepEqual(results, again) {
			t.Fatal(name, "gives", results, "and then", again)
		}
		if last := results[len(results)-1]; last != api.OK {
			for _, v := range results[:len(results)-1] {
				if !empty(v) {
					t.Fatal(name, results)
				}
			}
		}
		if shared(lists(results...), arguments) {
			t.Fatal(name, "shares memory", results)
		}
	}
}

// TestRules: P1, R2 and R3 for all calls: with valid arguments, equal ones among them.
func TestRules(t *testing.T) {
	r := rand.New(rand.NewSource(15))
	for range 150 {
		digits := []int{1, 5, 60, 300}[r.Intn(4)]
		a, b := roomyFrac(randomFrac(t, r, digits)), roomyFrac(randomFrac(t, r, digits))
		x, y := api.Turn{X: a, Y: b}, api.Turn{X: roomyFrac(b), Y: roomyFrac(FromInt(0))}
		p, q := roomyPoly(randomPoly(t, r, 6, digits)), roomyPoly(randomPoly(t, r, 6, digits))
		checkCalls(t, a, b, x, y, p, q, r.Intn(140)-70)
		checkCalls(t, a, a, x, x, p, p, r.Intn(6))
	}
	zero, one := FromInt(0), FromInt(1)
	checkCalls(t, zero, zero, api.Turn{X: zero, Y: zero}, api.Turn{X: one, Y: zero}, nil, nil, 0)
	checkCalls(t, one, zero, api.Turn{X: one, Y: one}, api.Turn{X: zero, Y: zero}, []api.Frac{one}, nil, -1)
}

// TestAnyArguments: P1, R5 to R7: whatever the arguments are, each call ends without a panic, and with an error if they are not valid.
func TestAnyArguments(t *testing.T) {
	r := rand.New(rand.NewSource(16))
	var bad []api.Frac
	for _, a := range badFracs() {
		bad = append(bad, a)
	}
	anyFrac := func() api.Frac {
		if r.Intn(3) == 0 {
			return bad[r.Intn(len(bad))]
		}
		return randomFrac(t, r, 1+r.Intn(360))
	}
	anyPoly := func() []api.Frac {
		if r.Intn(2) == 0 {
			return randomPoly(t, r, 5, 360)
		}
		p := make([]api.Frac, r.Intn(70))
		for i := range p {
			p[i] = anyFrac()
		}
		return p
	}
	for range 150 {
		n := []int{-1 << 63, 1<<63 - 1, -65, -64, 0, 64, 65}[r.Intn(7)]
		checkCalls(t, anyFrac(), anyFrac(), api.Turn{X: anyFrac(), Y: anyFrac()}, api.Turn{X: anyFrac(), Y: anyFrac()}, anyPoly(), anyPoly(), n)
	}
}

// TestEqualFields: P1.7, equal numbers have equal fields, however they were made; 0 too.
func TestEqualFields(t *testing.T) {
	third, e := Ratio(-2, -6)
	must(t, third, e)
	sum, e := Add(frac(t, "1/2"), frac(t, "-1/6"))
	must(t, sum, e)
	rest, e := Sub(third, sum)
	must(t, rest, e)
	nothing, e := Mul(third, FromInt(0))
	must(t, nothing, e)
	for _, pair := range [][2]api.Frac{{third, sum}, {third, frac(t, "1/3")}, {rest, FromInt(0)}, {nothing, frac(t, "0")}} {
		if !reflect.DeepEqual(pair[0], pair[1]) {
			t.Error(pair)
		}
	}
}
