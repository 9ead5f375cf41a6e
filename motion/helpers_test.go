package motion

import (
	"math/big"
	"math/cmplx"
	"math/rand"
	"strconv"
	"strings"
	"testing"

	"barleycorn/api"
	"barleycorn/exact"
)

// The least and the greatest int.
const (
	leastInt    = -1 << 63
	greatestInt = 1<<63 - 1
)

// must returns a result that has to come without an error.
func must[T any](t *testing.T, result T, e api.Errno) T {
	t.Helper()
	if e != api.OK {
		t.Fatalf("error %d", e)
	}
	return result
}

// second returns the error of a call with one other result.
func second[T any](_ T, e api.Errno) api.Errno { return e }

// frac returns the fraction that has a text.
func frac(t *testing.T, text string) api.Frac {
	t.Helper()
	a, e := exact.Parse(text)
	if e != api.OK {
		t.Fatalf("Parse(%q) gives %d", text, e)
	}
	return a
}

// turn returns the turning number whose parts have these texts, with a space between them.
func turn(t *testing.T, texts string) api.Turn {
	t.Helper()
	x, y, _ := strings.Cut(texts, " ")
	return api.Turn{X: frac(t, x), Y: frac(t, y)}
}

// path returns the path whose arms have these texts: "K X Y", with commas between them.
func path(t *testing.T, texts string) []api.Arm {
	t.Helper()
	var p []api.Arm
	for _, text := range strings.Split(texts, ",") {
		if strings.TrimSpace(text) == "" {
			continue
		}
		fields := strings.Fields(text)
		k, err := strconv.Atoi(fields[0])
		if err != nil {
			t.Fatal(err)
		}
		p = append(p, api.Arm{K: k, C: turn(t, fields[1]+" "+fields[2])})
	}
	return p
}

// text returns the text of a fraction that has to be valid.
func text(t *testing.T, a api.Frac) string {
	t.Helper()
	s, e := exact.Text(a)
	if e != api.OK {
		t.Fatalf("Text(%v) gives %d", a, e)
	}
	return s
}

// turnText returns the texts of the parts of a turning number.
func turnText(t *testing.T, c api.Turn) string {
	t.Helper()
	return text(t, c.X) + " " + text(t, c.Y)
}

// pathText returns the text of a path that has to be valid, as path reads it.
func pathText(t *testing.T, p []api.Arm) string {
	t.Helper()
	if e := CheckPath(p); e != api.OK {
		t.Fatalf("CheckPath(%v) gives %d", p, e)
	}
	var all []string
	for _, a := range p {
		all = append(all, strconv.Itoa(a.K)+" "+turnText(t, a.C))
	}
	return strings.Join(all, ", ")
}

// gauss is a number x + y i of math/big.
type gauss struct{ x, y *big.Rat }

// rat returns the number of math/big that is a fraction.
func rat(t *testing.T, a api.Frac) *big.Rat {
	t.Helper()
	r, ok := new(big.Rat).SetString(text(t, a))
	if !ok {
		t.Fatalf("no number: %v", a)
	}
	return r
}

// big2 returns the number of math/big that is a turning number.
func big2(t *testing.T, c api.Turn) gauss {
	t.Helper()
	return gauss{rat(t, c.X), rat(t, c.Y)}
}

// small returns the number x + y i.
func small(x, y int64) gauss { return gauss{big.NewRat(x, 1), big.NewRat(y, 1)} }

// given returns the turning number that a number is.
func (a gauss) given(t *testing.T) api.Turn {
	t.Helper()
	return turn(t, a.x.RatString()+" "+a.y.RatString())
}

func (a gauss) plus(b gauss) gauss {
	return gauss{new(big.Rat).Add(a.x, b.x), new(big.Rat).Add(a.y, b.y)}
}

func (a gauss) times(b gauss) gauss {
	xx, yy := new(big.Rat).Mul(a.x, b.x), new(big.Rat).Mul(a.y, b.y)
	xy, yx := new(big.Rat).Mul(a.x, b.y), new(big.Rat).Mul(a.y, b.x)
	return gauss{xx.Sub(xx, yy), xy.Add(xy, yx)}
}

func (a gauss) mirrored() gauss { return gauss{a.x, new(big.Rat).Neg(a.y)} }

func (a gauss) norm() *big.Rat { return a.times(a.mirrored()).x }

func (a gauss) over(b gauss) gauss {
	by := new(big.Rat).Inv(b.norm())
	return a.times(b.mirrored()).times(gauss{by, new(big.Rat)})
}

func (a gauss) power(n int) gauss {
	if n < 0 {
		return small(1, 0).over(a.power(-n))
	}
	power := small(1, 0)
	for range n {
		power = power.times(a)
	}
	return power
}

func (a gauss) equals(b gauss) bool { return a.x.Cmp(b.x) == 0 && a.y.Cmp(b.y) == 0 }

func (a gauss) isZero() bool { return a.x.Sign() == 0 && a.y.Sign() == 0 }

// about returns the float that is about a number.
func (a gauss) about() complex128 {
	x, _ := a.x.Float64()
	y, _ := a.y.Float64()
	return complex(x, y)
}

// placeAbout returns about the place of a path at e^(i angle).
func placeAbout(t *testing.T, p []api.Arm, angle float64) complex128 {
	t.Helper()
	var sum complex128
	for _, a := range p {
		sum += big2(t, a.C).about() * cmplx.Rect(1, angle*float64(a.K))
	}
	return sum
}

// unit returns a number whose norm is 1.
func unit(r *rand.Rand) gauss {
	n, d := int64(r.Intn(5)-2), int64(1+r.Intn(2))
	a := gauss{big.NewRat(d, 1), big.NewRat(n, 1)}
	return a.over(a.mirrored()).times(small(0, 1).power(r.Intn(4)))
}

// randomPath returns a path with at most so many arms, whose K are at most so far from 0, and whose C have small parts.
func randomPath(t *testing.T, r *rand.Rand, arms, far int) []api.Arm {
	t.Helper()
	var p []api.Arm
	count := r.Intn(arms + 1)
	for k := -far; k <= far; k++ {
		c := gauss{big.NewRat(int64(r.Intn(9)-4), int64(1+r.Intn(3))), big.NewRat(int64(r.Intn(5)-2), 1)}
		if left := far - k + 1; !c.isZero() && r.Intn(left) < count-len(p) {
			p = append(p, api.Arm{K: k, C: c.given(t)})
		}
	}
	return p
}

// tenTo returns 10^n.
func tenTo(n int) string { return "1" + strings.Repeat("0", n) }

// badFracs returns fractions that are not valid.
func badFracs() []api.Frac {
	whole := func(neg bool, groups ...uint32) api.Whole { return api.Whole{Neg: neg, Groups: groups} }
	return []api.Frac{
		{},
		{Num: whole(false, 1)},
		{Num: whole(true), Den: whole(false, 1)},
		{Num: whole(false, 2), Den: whole(false, 2)},
		{Num: whole(false, 1), Den: whole(true, 1)},
		{Num: whole(false, 0), Den: whole(false, 1)},
		{Num: whole(false, 1000000000), Den: whole(false, 1)},
		{Num: whole(false, append(make([]uint32, 40), 1)...), Den: whole(false, 1)},
		{Num: whole(false, make([]uint32, 500)...), Den: whole(false, 1)},
	}
}

// badTurns returns turning numbers that are not valid.
func badTurns() []api.Turn {
	var bad []api.Turn
	for _, a := range badFracs() {
		bad = append(bad, api.Turn{X: a, Y: exact.FromInt(1)}, api.Turn{X: exact.FromInt(1), Y: a})
	}
	return bad
}

// badPaths returns lists that are not valid paths, with the errors that they lead to.
func badPaths(t *testing.T) map[string]struct {
	p []api.Arm
	e api.Errno
} {
	t.Helper()
	type bad = struct {
		p []api.Arm
		e api.Errno
	}
	one := turn(t, "1 0")
	row := func(n, from int) []api.Arm {
		var p []api.Arm
		for k := range n {
			p = append(p, api.Arm{K: from + k, C: one})
		}
		return p
	}
	all := map[string]bad{
		"25 arms":               {row(25, -12), api.ErrMany},
		"25 arms, none valid":   {make([]api.Arm, 25), api.ErrMany},
		"K below":               {row(2, -65), api.ErrPath},
		"K above":               {row(2, 64), api.ErrPath},
		"K least":               {[]api.Arm{{K: leastInt, C: one}}, api.ErrPath},
		"K greatest":            {[]api.Arm{{K: 3, C: one}, {K: greatestInt, C: one}}, api.ErrPath},
		"equal K":               {[]api.Arm{{K: 3, C: one}, {K: 3, C: one}}, api.ErrPath},
		"K decreases":           {[]api.Arm{{K: 3, C: one}, {K: 2, C: one}}, api.ErrPath},
		"C is 0":                {[]api.Arm{{K: 3, C: turn(t, "0 0")}}, api.ErrPath},
		"last C is 0":           {[]api.Arm{{K: 3, C: one}, {K: 4, C: turn(t, "0 0")}}, api.ErrPath},
		"C is no number at all": {[]api.Arm{{K: 3}}, api.ErrPath},
	}
	for i, c := range badTurns() {
		all["bad C "+strconv.Itoa(i)] = bad{[]api.Arm{{K: 2, C: one}, {K: 3, C: c}}, api.ErrPath}
	}
	return all
}
