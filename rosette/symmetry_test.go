package rosette

import (
	"math/rand"
	"slices"
	"testing"

	"barleycorn/api"
)

// TestTurnedExamples: P3.6, turned by any s: the chapter's example, s below 0, above N, and the least and the greatest int.
func TestTurnedExamples(t *testing.T) {
	four, three := []int{1, 2, 3, 4}, []int{1, 2, 3}
	for _, x := range []struct {
		f    []int
		s    int
		want []int
	}{
		{four, 1, []int{4, 1, 2, 3}}, {four, 0, four}, {four, 4, four}, {four, 5, []int{4, 1, 2, 3}}, {four, -1, []int{2, 3, 4, 1}}, {four, -4, four}, {four, -9, []int{2, 3, 4, 1}},
		{four, greatestInt, []int{2, 3, 4, 1}}, {four, leastInt, four}, // 2^63 - 1 and -2^63
		{three, greatestInt, []int{3, 1, 2}}, {three, leastInt, []int{3, 1, 2}}, // 2^63 is 2 above a multiple of 3
		{three, leastInt + 1, []int{2, 3, 1}}, {three, 2, []int{2, 3, 1}},
	} {
		l, e := Turned(x.f, x.s)
		is(t, "turned", l, e, x.want...)
	}
}

// TestMirroredExamples: P3.6, the step 0 stays where it is.
func TestMirroredExamples(t *testing.T) {
	l, e := Mirrored([]int{1, 2, 3, 4})
	is(t, "mirrored", l, e, 1, 4, 3, 2)
	l, e = Mirrored([]int{1, 2, 3})
	is(t, "mirrored", l, e, 1, 3, 2)
	l, e = Mirrored([]int{7, 1, 2, 2, 1})
	is(t, "mirrored", l, e, 7, 1, 2, 2, 1)
}

// TestPeriodAndAxes: P3.6, the chapter's examples, rosettes with all heights the same, with the period N, and with no axis.
func TestPeriodAndAxes(t *testing.T) {
	every := func(n int) (l []int) {
		for s := range n {
			l = append(l, s)
		}
		return l
	}
	for _, x := range []struct {
		f      []int
		period int
		axes   []int
	}{
		{[]int{1, 0, 1, 0, 1, 0}, 2, []int{0, 2, 4}}, {[]int{1, 2, 3}, 3, nil}, {[]int{1, 2, 2, 1}, 4, []int{3}}, {[]int{2, 1, 1}, 3, []int{0}},
		{[]int{4, 4, 4}, 1, []int{0, 1, 2}}, {all(96, 7), 1, every(96)}, {with(all(96, 7), 95, 8), 96, []int{94}}, {with(all(96, 7), 0, 8), 96, []int{0}},
		{[]int{1, 2, 3, 1, 2, 3}, 3, nil}, {[]int{1, 2, 1, 1, 2, 1}, 3, []int{2, 5}}, {[]int{0, 1, 0, 2, 0, 1}, 6, []int{0}}, {[]int{1, 2, 1, 2, 1}, 5, []int{4}},
		{[]int{3, 3, 5, 3}, 4, []int{0}}, {[]int{1, 1, 2, 2, 1, 1, 2, 2}, 4, []int{1, 5}},
	} {
		period, e := Period(x.f)
		if period != x.period || e != api.OK {
			t.Error("period", x.f, period, e)
		}
		l, e := Axes(x.f)
		is(t, "axes", l, e, x.axes...)
	}
}

// TestMatchExamples: P3.6, the least s is returned, and ErrNone where no s is found, also for other numbers of steps.
func TestMatchExamples(t *testing.T) {
	for _, x := range []struct {
		f, g []int
		s    int
		e    api.Errno
	}{
		{[]int{1, 2, 3, 4}, []int{4, 1, 2, 3}, 1, api.OK}, {[]int{4, 1, 2, 3}, []int{1, 2, 3, 4}, 3, api.OK}, {[]int{1, 2, 3}, []int{1, 2, 3}, 0, api.OK},
		{[]int{1, 0, 1, 0}, []int{0, 1, 0, 1}, 1, api.OK}, {[]int{1, 0, 1, 0}, []int{1, 0, 1, 0}, 0, api.OK}, {all(96, 5), all(96, 5), 0, api.OK},
		{with(all(96, 5), 0, 6), with(all(96, 5), 95, 6), 95, api.OK},
		{[]int{1, 2, 3}, []int{1, 3, 2}, 0, api.ErrNone}, {[]int{1, 1, 1}, []int{1, 1, 1, 1}, 0, api.ErrNone}, {[]int{1, 1, 1, 1}, []int{1, 1, 1}, 0, api.ErrNone}, {[]int{1, 1, 2}, []int{1, 1, 3}, 0, api.ErrNone},
		{[]int{1, 1}, []int{1, 1, 3}, 0, api.ErrRosette}, {[]int{1, 1, 2}, []int{1, 1}, 0, api.ErrRosette},
	} {
		if s, e := Match(x.f, x.g); s != x.s || e != x.e {
			t.Error(x, s, e)
		}
	}
}

// isTurned reports whether g is f turned by s, word by word as the chapter has it.
func isTurned(f, g []int, s int) bool {
	for p := range f {
		if at(g, p+s) != f[p] {
			return false
		}
	}
	return len(f) == len(g)
}

// hasAxis reports whether s is an axis of f.
func hasAxis(f []int, s int) bool {
	for p := range f {
		if at(f, s-p) != f[p] {
			return false
		}
	}
	return true
}

// symmetric returns a rosette that is often one with a small period, or with axes.
func symmetric(r *rand.Rand) []int {
	part := randomRosette(r, 1+r.Intn(12), 3)
	if r.Intn(3) == 0 {
		part = append(part, reversed(part[r.Intn(2):])...)
	}
	f := slices.Repeat(part, 1+r.Intn(4))
	for len(f) < api.MinSteps {
		f = append(f, part...)
	}
	return f
}

// TestSymmetries: P3.6, P3.9, turned and mirrored rosettes, periods, axes and matches are what the chapter says; the period divides the number of steps, and the number of axes is 0, or the number of steps divided by the period.
func TestSymmetries(t *testing.T) {
	r := rand.New(rand.NewSource(35))
	with, without := 0, 0
	for range 1500 {
		f := symmetric(r)
		n, s := len(f), r.Intn(400)-200
		g, e := Turned(f, s)
		if e != api.OK || !isTurned(f, g, s) {
			t.Fatal("turned", f, s, g, e)
		}
		m, e := Mirrored(f)
		for p := range f {
			if e != api.OK || at(m, -p) != f[p] {
				t.Fatal("mirrored", f, m, e)
			}
		}
		period, e := Period(f)
		least := 1
		for !isTurned(f, f, least) {
			least++
		}
		if e != api.OK || period != least || n%period != 0 {
			t.Fatal("period", f, period, e)
		}
		var axes []int
		for s := range n {
			if hasAxis(f, s) {
				axes = append(axes, s)
			}
		}
		l, e := Axes(f)
		is(t, "axes", l, e, axes...)
		if len(l) == 0 {
			without++
		} else if with++; len(l) != n/period {
			t.Fatal("axes", f, l)
		}
		first := 0
		for !isTurned(f, g, first) {
			first++
		}
		if found, e := Match(f, g); found != first || found >= period || e != api.OK {
			t.Fatal("match", f, g, found, e)
		}
	}
	if with < 300 || without < 300 {
		t.Error("with axes:", with, "without:", without)
	}
}

// TestTurningAlong: P3.9, all of it turns with the rosette, and mirrors if the rubber is mirrored too; the period of a lift divides that of the rosette.
func TestTurningAlong(t *testing.T) {
	r := rand.New(rand.NewSource(36))
	for range 600 {
		f := symmetric(r)
		b := randomRubber(r, len(f), 2, 7)
		s, c := r.Intn(len(f)), reversed(b)
		g, e := Turned(f, s)
		g = must(t, g, e)
		m, e := Mirrored(f)
		m = must(t, m, e)
		for name, call := range map[string]func(f, b []int) ([]int, api.Errno){"Lift": Lift, "Under": Under, "Close": Close, "Grind": Grind, "Find": Find} {
			l, e := call(f, b)
			along, e1 := call(g, b)
			across, e2 := call(m, c)
			if e1 != e || e2 != e {
				t.Fatal(name, f, b, e, e1, e2)
			}
			if e != api.OK {
				continue
			}
			turned, _ := Turned(l, s)
			mirrored, _ := Mirrored(l)
			is(t, name, along, e1, turned...)
			is(t, name, across, e2, mirrored...)
			period, _ := Period(f)
			if of, e := Period(l); e != api.OK || period%of != 0 {
				t.Fatal(name, f, b, l, of, e)
			}
		}
		checkCounts(t, f, g, m, b, s)
		checkSteps(t, f, g, m, b, s)
	}
}

// checkCounts checks that as many rosettes have a lift as have it turned, and mirrored.
func checkCounts(t *testing.T, f, g, m, b []int, s int) {
	t.Helper()
	for _, lift := range [][3][]int{{f, g, m}, {liftOf(f, b), liftOf(g, b), liftOf(m, reversed(b))}} {
		n, e := Count(lift[0], b)
		along, e1 := Count(lift[1], b)
		across, e2 := Count(lift[2], reversed(b))
		if n != along || n != across || e != api.OK || e1 != api.OK || e2 != api.OK {
			t.Fatal("count", lift, b, s, n, along, across)
		}
	}
}

// checkSteps checks that the steps that are touched, and those that are needed, turn with a rosette, and mirror with it.
func checkSteps(t *testing.T, f, g, m, b []int, s int) {
	t.Helper()
	n := len(f)
	moved := func(steps []int, move func(p int) int) []int {
		var l []int
		for _, p := range steps {
			l = append(l, ((move(p)%n)+n)%n)
		}
		slices.Sort(l)
		return l
	}
	along := func(p int) int { return p + s }
	across := func(p int) int { return -p }
	needed := sound(t, Needed)(f, b)
	l, e := Needed(g, b)
	is(t, "needed", l, e, moved(needed, along)...)
	l, e = Needed(m, reversed(b))
	is(t, "needed", l, e, moved(needed, across)...)
	for p := range f {
		touched, e := Contacts(f, b, p)
		touched = must(t, touched, e)
		l, e := Contacts(g, b, (p+s)%n)
		is(t, "contacts", l, e, moved(touched, along)...)
		l, e = Contacts(m, reversed(b), (n-p)%n)
		is(t, "contacts", l, e, moved(touched, across)...)
	}
}
