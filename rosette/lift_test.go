package rosette

import (
	"math/rand"
	"slices"
	"testing"

	"barleycorn/api"
)

// TestExamples: P3.2, P3.3, the chapter's examples of lifts, of what is under them, of Close, Grind and Find.
func TestExamples(t *testing.T) {
	flat, peaked := []int{0, 0, 0}, []int{1, 0, 1}
	l, e := Lift([]int{0, 5, 0, 0, 0, 0}, peaked)
	is(t, "lift", l, e, 4, 5, 4, 0, 0, 0)
	l, e = Under(l, peaked)
	is(t, "under", l, e, 1, 5, 1, 0, 0, 0)
	l, e = Close([]int{0, 5, 0, 0, 0, 0}, peaked)
	is(t, "close", l, e, 1, 5, 1, 0, 0, 0)
	l, e = Lift([]int{0, 5, 0, 0, 0, 0}, flat)
	is(t, "lift", l, e, 5, 5, 5, 0, 0, 0)
	l, e = Close([]int{0, 5, 0, 0, 0, 0}, flat)
	is(t, "close", l, e, 0, 5, 0, 0, 0, 0)
	l, e = Lift([]int{6, 0, 6, 0, 0, 0}, flat)
	is(t, "lift", l, e, 6, 6, 6, 6, 0, 6)
	l, e = Close([]int{6, 0, 6, 0, 0, 0}, flat)
	is(t, "close", l, e, 6, 6, 6, 0, 0, 0)
	l, e = Grind([]int{0, 5, 5, 5, 0, 0}, flat)
	is(t, "grind", l, e, 0, 5, 5, 5, 0, 0)
	l, e = Grind([]int{0, 5, 5, 0, 0, 0}, flat)
	is(t, "grind", l, e, 0, 0, 0, 0, 0, 0)
	l, e = Find([]int{5, 5, 5, 0, 0, 0}, flat)
	is(t, "find", l, e, 0, 5, 0, 0, 0, 0)
	if l, e := Find([]int{0, 5, 5, 0, 0, 0}, flat); e != api.ErrNone || len(l) != 0 {
		t.Error(l, e)
	}
}

// TestSides: P3.2, the drop at j belongs to the step p + j: a rubber that leans is lifted on one side.
func TestSides(t *testing.T) {
	leaning := []int{7, 0, 2}
	l, e := Lift([]int{0, 9, 0, 0}, leaning)
	is(t, "lift", l, e, 7, 9, 2, 0)
	l, e = Under([]int{7, 9, 2, 0}, leaning)
	is(t, "under", l, e, 2, 9, 2, 0)
	l, e = Under([]int{9, 9, 0, 9, 9}, leaning)
	is(t, "under", l, e, 9, 7, 0, 2, 9)
	l, e = Lift([]int{0, 0, 9, 0, 0, 0, 0}, []int{9, 4, 0, 1, 2})
	is(t, "lift", l, e, 7, 8, 9, 5, 0, 0, 0)
	l, e = Lift([]int{9, 0, 0}, leaning)
	is(t, "around", l, e, 9, 2, 7)
	l, e = Under([]int{0, 9, 9}, leaning)
	is(t, "around", l, e, 0, 2, 7)
}

// TestExtremes: P3.2, no height is below 0 or above MaxRise, with the greatest heights and drops, and a rubber as long as the wheel.
func TestExtremes(t *testing.T) {
	high := api.MaxRise
	l, e := Lift([]int{0, high, 0, 0}, []int{high, 0, high})
	is(t, "lift", l, e, 0, high, 0, 0)
	l, e = Under([]int{high, 0, high, high}, []int{high, 0, high})
	is(t, "under", l, e, high, 0, high, high)
	l, e = Lift([]int{0, 0, high}, []int{high, 0, high - 1})
	is(t, "lift", l, e, 0, 1, high)
	l, e = Lift([]int{1, 2, 3, 4, 5}, all(5, 0))
	is(t, "as long as the wheel", l, e, 5, 5, 5, 5, 5)
	l, e = Under([]int{1, 2, 3, 4, 5}, all(5, 0))
	is(t, "as long as the wheel", l, e, 1, 1, 1, 1, 1)
	l, e = Close([]int{1, 2, 3, 4, 5}, all(5, 0))
	is(t, "as long as the wheel", l, e, 5, 5, 5, 5, 5)
	l, e = Lift([]int{1, 2, 3, 4, 5}, []int{0})
	is(t, "one drop", l, e, 1, 2, 3, 4, 5)
	l, e = Grind([]int{1, 2, 3, 4, 5}, []int{0})
	is(t, "one drop", l, e, 1, 2, 3, 4, 5)
	wide := with(all(api.MaxSteps, 0), 40, 5)
	l, e = Lift(wide, all(api.MaxRubber, 0))
	want := all(api.MaxSteps, 0)
	for p := 25; p <= 55; p++ {
		want[p] = 5
	}
	is(t, "the longest rubber", l, e, want...)
}

// TestAgainstTheChapter: P3.2, P3.3, lifts and the rest are what the chapter's words make of them, for random rosettes and rubbers.
func TestAgainstTheChapter(t *testing.T) {
	r := rand.New(rand.NewSource(30))
	found := 0
	for range 2000 {
		f, b := randomPair(r)
		l, e := Lift(f, b)
		is(t, "lift", l, e, liftOf(f, b)...)
		l, e = Under(f, b)
		is(t, "under", l, e, underOf(f, b)...)
		l, e = Close(f, b)
		is(t, "close", l, e, underOf(liftOf(f, b), b)...)
		l, e = Grind(f, b)
		is(t, "grind", l, e, liftOf(underOf(f, b), b)...)
		for _, h := range [][]int{liftOf(f, b), f, underOf(f, b), l} {
			if Check(h) != api.OK {
				t.Fatal(f, b, h)
			}
			g, e := Find(h, b)
			if !slices.Equal(liftOf(underOf(h, b), b), h) {
				if e != api.ErrNone || len(g) != 0 {
					t.Fatal(h, b, g, e)
				}
				continue
			}
			found++
			is(t, "find", g, e, underOf(h, b)...)
		}
	}
	if found < 2000 || found > 7000 {
		t.Error("found", found)
	}
}

// TestBelow: P3.7, the lift of f is below h exactly if f is below what is under h, for all small rosettes.
func TestBelow(t *testing.T) {
	for b := range rubbers(3, 2) {
		for f := range rosettes(4, 2) {
			l := sound(t, Lift)(f, b)
			for h := range rosettes(4, 2) {
				if isBelow(l, h) != isBelow(f, sound(t, Under)(h, b)) {
					t.Fatal(f, h, b)
				}
			}
		}
	}
}

// TestBetween: P3.7, Close and Grind done twice do what they do once, f is between them, and Close keeps the lift.
func TestBetween(t *testing.T) {
	r := rand.New(rand.NewSource(31))
	lift, under, close, grind := sound(t, Lift), sound(t, Under), sound(t, Close), sound(t, Grind)
	for range 2000 {
		f, b := randomPair(r)
		h := randomRosette(r, len(f), max(1, slices.Max(f)))
		if isBelow(lift(f, b), h) != isBelow(f, under(h, b)) {
			t.Fatal("below", f, h, b)
		}
		if h = lift(f, b); !isBelow(f, under(h, b)) || !isBelow(f, h) {
			t.Fatal("below", f, h, b)
		}
		closed, ground := close(f, b), grind(f, b)
		if !slices.Equal(close(closed, b), closed) || !slices.Equal(grind(ground, b), ground) {
			t.Fatal("twice", f, b)
		}
		if !isBelow(ground, f) || !isBelow(f, closed) || !slices.Equal(lift(closed, b), h) {
			t.Fatal("between", f, b, ground, closed)
		}
	}
}

// TestGreatest: P3.3, P3.7 and P3.8, against trying all small rosettes: Close is the greatest one with the lift, Grind the greatest lift below f, and Find finds exactly what is a lift. The heights from 0 to 3 are enough, as no rosette is above its lift.
func TestGreatest(t *testing.T) {
	for _, x := range []struct{ n, drops, drop int }{{3, 1, 0}, {3, 3, 3}, {4, 3, 2}, {5, 5, 1}} {
		for b := range rubbers(x.drops, x.drop) {
			lifts := map[[5]int][]int{} // the greatest rosette, step by step, of each lift
			for f := range rosettes(x.n, 3) {
				key := [5]int(append(liftOf(f, b), 0, 0)[:5])
				if lifts[key] == nil {
					lifts[key] = slices.Clone(f)
				}
				for p, h := range f {
					lifts[key][p] = max(lifts[key][p], h)
				}
			}
			for f := range rosettes(x.n, 3) {
				checkGreatest(t, f, b, lifts)
			}
		}
	}
}

// checkGreatest checks Close, Find and Grind of a rosette, where for all lifts of its size the greatest rosettes are given.
func checkGreatest(t *testing.T, f, b []int, lifts map[[5]int][]int) {
	t.Helper()
	l, e := Close(f, b)
	is(t, "close", l, e, lifts[[5]int(append(liftOf(f, b), 0, 0)[:5])]...)
	l, e = Find(f, b)
	greatest, isLift := lifts[[5]int(append(slices.Clone(f), 0, 0)[:5])]
	if isLift {
		is(t, "find", l, e, greatest...)
	} else if e != api.ErrNone || len(l) != 0 {
		t.Error("find", f, b, l, e)
	}
	ground := sound(t, Grind)(f, b)
	if isLift != slices.Equal(ground, f) {
		t.Error("grind", f, b, ground)
	}
	if _, ok := lifts[[5]int(append(slices.Clone(ground), 0, 0)[:5])]; !ok || !isBelow(ground, f) {
		t.Error("grind", f, b, ground)
	}
	for key := range lifts {
		if lift := key[:len(f)]; isBelow(lift, f) && !isBelow(lift, ground) {
			t.Error("grind", f, b, ground, "is not above", lift)
		}
	}
}

// TestAlike: P3.8, two rosettes lift a rubber alike exactly if Close makes the same of them, for all small ones.
func TestAlike(t *testing.T) {
	for b := range rubbers(3, 1) {
		for f := range rosettes(4, 2) {
			lift, closed := sound(t, Lift)(f, b), sound(t, Close)(f, b)
			for g := range rosettes(4, 2) {
				if slices.Equal(lift, sound(t, Lift)(g, b)) != slices.Equal(closed, sound(t, Close)(g, b)) {
					t.Fatal(f, g, b)
				}
			}
		}
	}
}
