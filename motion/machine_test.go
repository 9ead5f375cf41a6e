package motion

import (
	"math"
	"math/big"
	"math/cmplx"
	"math/rand"
	"slices"
	"strings"
	"testing"

	"barleycorn/api"
)

// Settings with the C that has some texts.
func slide(t *testing.T, c string) api.Setting {
	t.Helper()
	return api.Setting{Kind: api.SetSlide, C: turn(t, c)}
}

func scale(t *testing.T, c string) api.Setting {
	t.Helper()
	return api.Setting{Kind: api.SetScale, C: turn(t, c)}
}

func arm(t *testing.T, num, den int, c string) api.Setting {
	t.Helper()
	return api.Setting{Kind: api.SetArm, Num: num, Den: den, C: turn(t, c)}
}

func swing(t *testing.T, num, den int, c string) api.Setting {
	t.Helper()
	return api.Setting{Kind: api.SetSwing, Num: num, Den: den, C: turn(t, c)}
}

func spindle(num, den int) api.Setting {
	return api.Setting{Kind: api.SetSpindle, Num: num, Den: den}
}

func over() api.Setting { return api.Setting{Kind: api.SetOver} }

// TestCheckMachine: P2.1, for valid settings at the limits, and for others.
func TestCheckMachine(t *testing.T) {
	blank := api.Turn{X: api.Frac{Num: api.Whole{Groups: []uint32{}}}}
	for _, m := range [][]api.Setting{
		nil,
		{},
		slices.Repeat([]api.Setting{over()}, 12),
		{slide(t, "0 0"), slide(t, "-1/2 "+tenTo(359)), scale(t, "0 1"), scale(t, "-3 0")},
		{arm(t, 96, 96, "0 0"), arm(t, -96, 1, "1 2"), arm(t, 0, 1, "1 2"), swing(t, 96, 1, "0 0"), swing(t, -96, 96, "1/3 1")},
		{spindle(96, 96), spindle(-96, 1), spindle(0, 5), {Kind: api.SetSpindle, Num: 1, Den: 1, C: blank}, {Kind: api.SetOver, C: blank}},
	} {
		if e := CheckMachine(m); e != api.OK {
			t.Error(m, e)
		}
	}
	if e := CheckMachine(slices.Repeat([]api.Setting{over()}, 13)); e != api.ErrMany {
		t.Error(e)
	}
	if e := CheckMachine(make([]api.Setting, 13)); e != api.ErrMany {
		t.Error(e)
	}
}

// badSettings returns settings that are not valid.
func badSettings(t *testing.T) []api.Setting {
	t.Helper()
	one, nothing := turn(t, "1 0"), turn(t, "0 0")
	bad := []api.Setting{{}, {Kind: 7}, {Kind: 255}, {Kind: 7, Num: 1, Den: 1, C: one}, {Kind: api.SetScale, C: nothing}}
	for _, kind := range []uint8{api.SetSlide, api.SetScale} {
		for _, ratio := range [][2]int{{1, 0}, {0, 1}, {-1, 0}, {0, -1}, {1, 1}, {leastInt, 0}, {0, greatestInt}} {
			bad = append(bad, api.Setting{Kind: kind, Num: ratio[0], Den: ratio[1], C: one})
		}
		bad = append(bad, api.Setting{Kind: kind})
	}
	for _, ratio := range [][2]int{{1, 0}, {0, 1}, {1, 1}, {greatestInt, leastInt}} {
		bad = append(bad, api.Setting{Kind: api.SetOver, Num: ratio[0], Den: ratio[1]})
	}
	for _, ratio := range [][2]int{{97, 1}, {-97, 1}, {leastInt, 1}, {greatestInt, 1}, {1, 0}, {0, 0}, {1, -1}, {1, 97}, {1, leastInt}, {1, greatestInt}, {leastInt, leastInt}} {
		bad = append(bad,
			api.Setting{Kind: api.SetSpindle, Num: ratio[0], Den: ratio[1]},
			api.Setting{Kind: api.SetArm, Num: ratio[0], Den: ratio[1], C: one},
			api.Setting{Kind: api.SetSwing, Num: ratio[0], Den: ratio[1], C: one})
	}
	for _, c := range badTurns() {
		bad = append(bad,
			api.Setting{Kind: api.SetSlide, C: c},
			api.Setting{Kind: api.SetScale, C: c},
			api.Setting{Kind: api.SetArm, Num: 1, Den: 1, C: c},
			api.Setting{Kind: api.SetSwing, Num: 1, Den: 1, C: c})
	}
	minus, group := api.Whole{Neg: true}, api.Whole{Groups: []uint32{0}}
	for _, c := range []api.Turn{
		one, nothing,
		{X: api.Frac{Num: minus}}, {X: api.Frac{Den: minus}}, {Y: api.Frac{Num: minus}}, {Y: api.Frac{Den: minus}},
		{X: api.Frac{Num: group}}, {X: api.Frac{Den: group}}, {Y: api.Frac{Num: group}}, {Y: api.Frac{Den: group}},
	} {
		bad = append(bad, api.Setting{Kind: api.SetSpindle, Num: 1, Den: 1, C: c}, api.Setting{Kind: api.SetOver, C: c})
	}
	return bad
}

// TestBadSettings: P2.1, P2.2, a machine with a setting that is not valid, wherever it stands.
func TestBadSettings(t *testing.T) {
	for _, bad := range badSettings(t) {
		for _, m := range [][]api.Setting{{bad}, {over(), bad}, {bad, slide(t, "1 0")}} {
			if e := CheckMachine(m); e != api.ErrMachine {
				t.Error(bad, e)
			}
			if p, turns, e := Draw(m); e != api.ErrMachine || len(p) > 0 || !isNothing(turns) {
				t.Error(bad, p, turns, e)
			}
		}
	}
}

// isNothing reports whether a fraction is the zero value.
func isNothing(a api.Frac) bool {
	return isBlank(api.Turn{X: a})
}

// TestDraw: P2.2, the chapter's examples, every kind of setting, terms that cancel each other, and K at -MaxK and MaxK.
func TestDraw(t *testing.T) {
	for _, x := range []struct {
		m           []api.Setting
		turns, path string
	}{
		{[]api.Setting{arm(t, 2, 3, "200 0"), arm(t, -4, 3, "100 0")}, "3/2", hypocycloid},
		{[]api.Setting{slide(t, "100 0"), spindle(1, 1)}, "1", "1 100 0"},
		{[]api.Setting{swing(t, 5, 1, "60 0"), slide(t, "400 0"), spindle(1, 1)}, "1", "-4 30 0, 1 400 0, 6 30 0"},
		{nil, "0", ""},
		{[]api.Setting{over(), spindle(1, 2), scale(t, "2 0")}, "0", ""},
		{[]api.Setting{slide(t, "0 0")}, "0", ""},
		{[]api.Setting{arm(t, 1, 2, "0 0"), swing(t, 1, 3, "0 0")}, "0", ""},
		{[]api.Setting{slide(t, "3 4")}, "0", "0 3 4"},
		{[]api.Setting{slide(t, "3 4"), over()}, "0", "0 3 -4"},
		{[]api.Setting{slide(t, "3 4"), spindle(1, 2), spindle(-3, 6)}, "0", "0 3 4"},
		{[]api.Setting{slide(t, "3 4"), spindle(-1, 2)}, "2", "-1 3 4"},
		{[]api.Setting{slide(t, "3 4"), slide(t, "-3 1/2")}, "0", "0 0 9/2"},
		{[]api.Setting{slide(t, "3 4"), slide(t, "-3 -4")}, "0", ""},
		{[]api.Setting{arm(t, 2, 1, "3 4"), arm(t, 4, 2, "-3 -4")}, "0", ""},
		{[]api.Setting{arm(t, 2, 1, "3 4"), arm(t, 4, 2, "-3 -4"), arm(t, 1, 5, "0 1")}, "5", "1 0 1"},
		{[]api.Setting{arm(t, 2, 1, "3 4"), arm(t, 1, 2, "1 0"), arm(t, 4, 2, "-3 -4")}, "2", "1 1 0"},
		{[]api.Setting{arm(t, 0, 7, "3 4"), slide(t, "1 1")}, "0", "0 4 5"},
		{[]api.Setting{swing(t, 0, 3, "6 0")}, "0", "0 6 0"},
		{[]api.Setting{slide(t, "-3 0"), swing(t, 0, 3, "6 0")}, "0", "0 3 0"},
		{[]api.Setting{swing(t, -1, 3, "6 2"), arm(t, 2, 6, "-3 -1")}, "3", "-1 3 1"},
		{[]api.Setting{swing(t, 1, 3, "1 0"), over(), swing(t, 2, 6, "-1 0")}, "0", ""},
		{[]api.Setting{arm(t, 2, 1, "5 0"), scale(t, "0 2"), over()}, "1/2", "-1 0 -10"},
		{[]api.Setting{arm(t, 3, 1, "1 0"), slide(t, "1 1"), scale(t, "0 1")}, "1/3", "0 -1 1, 1 0 1"},
		{[]api.Setting{arm(t, 1, 2, "1 0"), arm(t, 1, 3, "2 0")}, "6", "2 2 0, 3 1 0"},
		{[]api.Setting{arm(t, 6, 5, "1 0"), arm(t, -4, 5, "2 0")}, "5/2", "-2 2 0, 3 1 0"},
		{[]api.Setting{arm(t, 64, 1, "1 0"), arm(t, -64, 1, "2 0"), arm(t, 1, 1, "1 0")}, "1", "-64 2 0, 1 1 0, 64 1 0"},
		{[]api.Setting{arm(t, 96, 95, "1 0")}, "95/96", "1 1 0"},
		{[]api.Setting{arm(t, 96, 1, "1 0"), arm(t, 3, 2, "1 0")}, "2/3", "1 1 0, 64 1 0"},
		{[]api.Setting{arm(t, 1, 96, "1 0"), slide(t, "5 0"), spindle(-1, 96)}, "96", "-1 5 0, 0 1 0"},
	} {
		p, turns, e := Draw(x.m)
		if e != api.OK || text(t, turns) != x.turns || pathText(t, p) != x.path {
			t.Error(x.m, x.turns, x.path, "but", p, turns, e)
		}
	}
}

// TestDrawErrors: P2.2, what is too large in each of the calls of layer 1, K that are outside, and that the first stands before the second.
func TestDrawErrors(t *testing.T) {
	nines := strings.Repeat("9", 360)
	twos := new(big.Int).Lsh(big.NewInt(1), 1190).String()
	outside := []api.Setting{arm(t, 65, 1, "1 0"), arm(t, 1, 1, "1 0")}
	primes := []int{89, 83, 79, 73, 71, 67, 61, 59, 53, 47, 43}
	var many []api.Setting
	for _, p := range primes {
		many = append(many, arm(t, 96, p, "1 0"))
	}
	with := func(m []api.Setting, more ...api.Setting) []api.Setting { return append(slices.Clone(m), more...) }
	for _, x := range []struct {
		m []api.Setting
		e api.Errno
	}{
		{slices.Repeat([]api.Setting{over()}, 13), api.ErrMany},
		{make([]api.Setting, 13), api.ErrMany},
		{outside, api.ErrMany},
		{[]api.Setting{arm(t, -65, 1, "1 0"), arm(t, 1, 1, "1 0")}, api.ErrMany},
		{[]api.Setting{arm(t, 65, 1, "1 0"), arm(t, 1, 1, "1 0"), arm(t, 1, 1, "-1 0")}, api.OK},
		{[]api.Setting{arm(t, 1, 65, "1 0"), arm(t, 1, 1, "1 0")}, api.ErrMany},
		{[]api.Setting{arm(t, 1, 64, "1 0"), arm(t, 1, 1, "1 0")}, api.OK},
		{many, api.ErrMany},
		{many[:1], api.OK},
		{slices.Repeat([]api.Setting{scale(t, nines+" 0")}, 12), api.OK}, // nothing is multiplied
		{[]api.Setting{slide(t, nines+" 0"), slide(t, "1 0")}, api.ErrLarge},
		{[]api.Setting{slide(t, nines+" 0"), slide(t, "-1 0")}, api.OK},
		{[]api.Setting{slide(t, "0 -"+nines), slide(t, "0 -1")}, api.ErrLarge},
		{[]api.Setting{arm(t, 1, 1, nines+" 0"), arm(t, 2, 2, "1 0")}, api.ErrLarge},
		{[]api.Setting{arm(t, 1, 1, nines+" 0"), arm(t, 1, 2, "1 0")}, api.OK},
		{[]api.Setting{arm(t, 1, 1, nines+" 0"), swing(t, 1, 1, "2 0")}, api.ErrLarge},
		{[]api.Setting{arm(t, 1, 1, nines+" 0"), swing(t, -1, 1, "2 0")}, api.ErrLarge},
		{[]api.Setting{arm(t, 1, 1, nines+" 0"), swing(t, -1, 1, "-2 0")}, api.OK},
		{[]api.Setting{swing(t, 1, 1, "1/"+nines+" 0")}, api.ErrLarge},
		{[]api.Setting{swing(t, 1, 1, "0 1/"+nines)}, api.ErrLarge},
		{[]api.Setting{swing(t, 1, 1, "2/"+nines+" 0")}, api.OK},
		{[]api.Setting{swing(t, 0, 1, "1/"+twos+" 0"), scale(t, "1/32 0")}, api.OK},
		{[]api.Setting{swing(t, 0, 1, "1/"+twos+" 0"), scale(t, "1/128 0")}, api.ErrLarge},
		{[]api.Setting{slide(t, "10 0"), scale(t, tenTo(359)+" 0")}, api.ErrLarge},
		{[]api.Setting{slide(t, "1 0"), scale(t, tenTo(359)+" 0"), scale(t, "1/"+tenTo(359)+" 0")}, api.OK},
		// ErrLarge stands before the ErrMany of K, and CheckMachine's error before both.
		{with(outside, slide(t, nines+" 0"), slide(t, "1 0")), api.ErrLarge},
		{with(outside, slide(t, nines+" 0"), slide(t, "1 0"), api.Setting{}), api.ErrMachine},
		{with(outside, slide(t, nines+" 0"), slide(t, "1 0"), scale(t, "1/"+nines+" 0")), api.ErrLarge},
	} {
		p, turns, e := Draw(x.m)
		if e != x.e || e != api.OK && (len(p) > 0 || !isNothing(turns)) {
			t.Error(x.m, x.e, "but", p, turns, e)
		}
	}
}

// drawnTerm is C * s^x of a machine, for a second way to make its terms.
type drawnTerm struct {
	x *big.Rat
	c gauss
}

// drawnTerms returns the terms of a machine, made with numbers of math/big.
func drawnTerms(t *testing.T, m []api.Setting) map[string]drawnTerm {
	t.Helper()
	terms := map[string]drawnTerm{}
	add := func(x *big.Rat, c gauss) {
		if old, ok := terms[x.RatString()]; ok {
			c = c.plus(old.c)
		}
		terms[x.RatString()] = drawnTerm{x, c}
	}
	change := func(by func(drawnTerm) drawnTerm) {
		old := terms
		terms = map[string]drawnTerm{}
		for _, a := range old {
			b := by(a)
			terms[b.x.RatString()] = b
		}
	}
	for _, s := range m {
		ratio := new(big.Rat)
		if s.Den > 0 {
			ratio = big.NewRat(int64(s.Num), int64(s.Den))
		}
		switch s.Kind {
		case api.SetSlide, api.SetArm:
			add(ratio, big2(t, s.C))
		case api.SetSwing:
			half := big2(t, s.C).times(gauss{big.NewRat(1, 2), new(big.Rat)})
			add(ratio, half)
			add(new(big.Rat).Neg(ratio), half)
		case api.SetSpindle:
			change(func(a drawnTerm) drawnTerm { return drawnTerm{new(big.Rat).Add(a.x, ratio), a.c} })
		case api.SetOver:
			change(func(a drawnTerm) drawnTerm { return drawnTerm{new(big.Rat).Neg(a.x), a.c.mirrored()} })
		case api.SetScale:
			change(func(a drawnTerm) drawnTerm { return drawnTerm{a.x, a.c.times(big2(t, s.C))} })
		}
	}
	for key, a := range terms {
		if a.c.isZero() {
			delete(terms, key)
		}
	}
	return terms
}

// closingTurns returns the least common multiple of all Den of x over the greatest common divisor of all Num; 0 if all x are 0.
func closingTurns(terms map[string]drawnTerm) *big.Rat {
	nums, dens := new(big.Int), big.NewInt(1)
	for _, a := range terms {
		if a.x.Sign() != 0 {
			nums.GCD(nil, nil, nums, new(big.Int).Abs(a.x.Num()))
			common := new(big.Int).GCD(nil, nil, dens, a.x.Denom())
			dens.Mul(dens, a.x.Denom()).Div(dens, common)
		}
	}
	if nums.Sign() == 0 {
		return new(big.Rat)
	}
	return new(big.Rat).SetFrac(dens, nums)
}

// randomMachine returns a machine whose gears and numbers are of few kinds, so that terms often meet.
func randomMachine(t *testing.T, r *rand.Rand) []api.Setting {
	t.Helper()
	var m []api.Setting
	numbers := []string{"1 0", "-1 0", "2 0", "-1/2 0", "0 1", "1 1", "-1 -1", "0 -2/3"}
	for range r.Intn(api.MaxSettings + 1) {
		c := numbers[r.Intn(len(numbers))]
		num, den := r.Intn(9)-4, 1+r.Intn(3)
		if r.Intn(20) == 0 {
			num *= 12
		}
		switch r.Intn(8) {
		case 0, 1:
			m = append(m, slide(t, c))
		case 2:
			m = append(m, spindle(num, den))
		case 3, 4:
			m = append(m, arm(t, num, den, c))
		case 5:
			m = append(m, swing(t, num, den, c))
		case 6:
			m = append(m, over())
		case 7:
			m = append(m, scale(t, c))
		}
	}
	return m
}

// TestDrawExactly: P2.2 and P2.7, paths and turns are those of a second way to make them; a path goes through its curve once, or is one place.
func TestDrawExactly(t *testing.T) {
	r := rand.New(rand.NewSource(4))
	outside := 0
	for range 2000 {
		m := randomMachine(t, r)
		terms := drawnTerms(t, m)
		want := closingTurns(terms)
		places := map[int]gauss{}
		tooMany := false
		for _, a := range terms {
			k := new(big.Rat).Mul(a.x, want)
			if !k.IsInt() {
				t.Fatal("wrong test", m)
			}
			n := int(k.Num().Int64())
			tooMany = tooMany || n < -api.MaxK || n > api.MaxK
			places[n] = a.c
		}
		p, turns, e := Draw(m)
		if tooMany {
			outside++
			if e != api.ErrMany {
				t.Fatal(m, e)
			}
			continue
		}
		if e != api.OK || CheckPath(p) != api.OK || rat(t, turns).Cmp(want) != 0 || len(p) != len(places) {
			t.Fatal(m, p, turns, e)
		}
		for _, a := range p {
			if c, ok := places[a.K]; !ok || !big2(t, a.C).equals(c) {
				t.Fatal(m, a)
			}
		}
		n, e := Times(p)
		if onePlace := len(p) == 0 || len(p) == 1 && p[0].K == 0; e != api.OK || onePlace != (n == 0) || onePlace != (want.Sign() == 0) || n > 1 {
			t.Fatal(m, n, e)
		}
	}
	if outside == 0 || outside > 500 {
		t.Error("the test needs other machines:", outside)
	}
}

// TestMoments: P2.7, the path has at each moment the place that the settings, one after the other, make.
func TestMoments(t *testing.T) {
	r := rand.New(rand.NewSource(5))
	for range 300 {
		m := randomMachine(t, r)
		p, turns, e := Draw(m)
		if e != api.OK {
			continue
		}
		all, _ := rat(t, turns).Float64()
		for _, part := range []float64{0, 0.1, 0.37, 0.5, 0.93, 1} {
			angle := 2 * math.Pi * part
			made, drawn := madeAbout(t, m, angle*all), placeAbout(t, p, angle)
			if cmplx.Abs(made-drawn) > 1e-6*(1+cmplx.Abs(made)) {
				t.Fatal(m, part, made, drawn)
			}
		}
	}
}

// madeAbout returns about the place that the settings of a machine make after the main spindle has made angle / (2 * pi) turns.
func madeAbout(t *testing.T, m []api.Setting, angle float64) complex128 {
	t.Helper()
	var z complex128
	for _, s := range m {
		var c complex128
		if s.Kind != api.SetSpindle && s.Kind != api.SetOver {
			c = big2(t, s.C).about()
		}
		geared := angle * float64(s.Num) / math.Max(float64(s.Den), 1)
		switch s.Kind {
		case api.SetSlide:
			z += c
		case api.SetSpindle:
			z *= cmplx.Rect(1, geared)
		case api.SetArm:
			z += c * cmplx.Rect(1, geared)
		case api.SetSwing:
			z += c * complex(math.Cos(geared), 0)
		case api.SetOver:
			z = cmplx.Conj(z)
		case api.SetScale:
			z *= c
		}
	}
	return z
}

// TestDrawAll: P2.2, a machine with MaxSettings swings has a path with MaxArms arms.
func TestDrawAll(t *testing.T) {
	var m []api.Setting
	for n := 1; n <= api.MaxSettings; n++ {
		m = append(m, swing(t, n, 96, "2 0"))
	}
	p, turns, e := Draw(m)
	if e != api.OK || len(p) != api.MaxArms || text(t, turns) != "96" || p[0].K != -12 || p[23].K != 12 {
		t.Error(p, turns, e)
	}
}
