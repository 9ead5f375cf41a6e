package light_test

import (
	"math/rand"
	"slices"
	"testing"

	"barleycorn/api"
	"barleycorn/light"
)

// checkIs reports an error unless all functions with a surface say whether it is valid: if it is not, that is their error whatever the other arguments are.
func checkIs(t *testing.T, what any, s api.Surface, isValid bool) {
	t.Helper()
	for _, l := range []api.Light{direction(1, 2, 3), {}} {
		facets, facetsError := light.Facets(s)
		shadows, shadowsError := light.Shadows(s, l)
		picture, pictureError := light.Picture(s, l)
		levels, levelsError := light.Levels(s, l, l.Z)
		flash, flashError := light.Flash(s, []api.Light{l})
		none, noneError := light.Flash(s, nil)
		got := []api.Errno{light.Check(s), facetsError, shadowsError, pictureError, levelsError, flashError, noneError}
		lengths := []int{len(facets), len(shadows), len(picture), len(levels), len(flash), len(none)}
		want, cells := all(7, api.ErrSurface), 0
		if isValid {
			e := light.CheckLight(l)
			want, cells = []api.Errno{api.OK, api.OK, e, e, e, e, api.ErrMany}, (s.W-1)*(s.H-1)
		}
		if !slices.Equal(got, want) {
			t.Error(what, l, got, "want", want)
		}
		for i, length := range lengths {
			if want[i+1] == api.OK && length != cells || want[i+1] != api.OK && length != 0 {
				t.Error(what, l, lengths, want)
			}
		}
	}
}

// TestSurfaceLimits: P6.1, W, H and Pitch at their limits and just beyond them, and far away, with as many heights as they say.
func TestSurfaceLimits(t *testing.T) {
	for n, isValid := range (limit[int]{"side", nil, 2, 24}).around() {
		heights := all(5*max(min(n, 30), 0), 1)
		checkIs(t, []any{"W", n}, api.Surface{W: n, H: 5, Pitch: 1, Heights: heights}, isValid)
		checkIs(t, []any{"H", n}, api.Surface{W: 5, H: n, Pitch: 1, Heights: heights}, isValid)
	}
	for n, isValid := range (limit[int]{"pitch", nil, 1, 100}).around() {
		checkIs(t, []any{"Pitch", n}, flat(3, 4, n, 5), isValid)
	}
	checkIs(t, "nothing", api.Surface{}, false)
	checkIs(t, "no heights", api.Surface{W: 2, H: 2, Pitch: 1}, false)
	checkIs(t, "the least one", flat(2, 2, 1, -100), true)
	checkIs(t, "the greatest one", flat(24, 24, 100, 100), true)
	checkIs(t, "1 by 24", flat(1, 24, 1, 0), false)
	checkIs(t, "24 by 1", flat(24, 1, 1, 0), false)
	checkIs(t, "25 by 2", flat(25, 2, 1, 0), false)
	checkIs(t, "2 by 25", flat(2, 25, 1, 0), false)
}

// TestOverflowingSides: P6.1 and R5, sides whose product is the number of heights, or overflows to it.
func TestOverflowingSides(t *testing.T) {
	for _, s := range []api.Surface{
		{W: -2, H: -2, Pitch: 1, Heights: all(4, 0)}, {W: 1 << 32, H: 1 << 32, Pitch: 1}, {W: leastInt, H: 2, Pitch: 1}, {W: 2, H: leastInt, Pitch: 1}, {W: 1<<62 + 1, H: 4, Pitch: 1, Heights: all(4, 0)},
		{W: 4, H: 1<<62 + 1, Pitch: 1, Heights: all(4, 0)}, {W: greatestInt, H: greatestInt, Pitch: 1, Heights: all(1, 0)}, {W: 1, H: 4, Pitch: 1, Heights: all(4, 0)}, {W: 0, H: 0, Pitch: 1},
	} {
		checkIs(t, s, s, false)
	}
}

// TestNumberOfHeights: P6.1, one height too few or too many, or many.
func TestNumberOfHeights(t *testing.T) {
	for _, side := range [][2]int{{2, 2}, {3, 2}, {2, 3}, {24, 2}, {5, 7}, {24, 24}} {
		w, h := side[0], side[1]
		for more, isValid := range map[int]bool{0: true, -1: false, 1: false, -w: false, w: false, -w * h: false, w * h: false} {
			s := flat(w, h, 1, 0)
			s.Heights = all(w*h+more, 0)
			checkIs(t, []any{w, h, more}, s, isValid)
		}
		s := flat(w, h, 1, 0)
		s.Heights = append(s.Heights, 101)[:w*h]
		checkIs(t, "a height beyond the length", s, true)
	}
}

// TestHeights: P6.1, each height at its limits and just beyond them, and far away.
func TestHeights(t *testing.T) {
	for _, side := range [][2]int{{2, 2}, {4, 3}} {
		for i := range side[0] * side[1] {
			for n, isValid := range (limit[int]{"height", nil, -100, 100}).around() {
				s := flat(side[0], side[1], 1, 7)
				s.Heights[i] = n
				checkIs(t, []any{side, i, n}, s, isValid)
			}
		}
	}
}

// TestLightLimits: P6.1, P6.2, each coordinate of a light at its limits and just beyond them, and far away.
func TestLightLimits(t *testing.T) {
	for _, f := range lightFields() {
		for n, isValid := range f.around() {
			l, want := direction(1, 1, 1), api.ErrLight
			*f.field(&l) = n
			if isValid {
				want = api.OK
			}
			_, bright := light.Bright(api.Tilt{}, 1, l)
			_, shadows := light.Shadows(example(), l)
			_, picture := light.Picture(example(), l)
			_, levels := light.Levels(example(), l, 5)
			_, flash := light.Flash(example(), []api.Light{direction(0, 0, 1), l})
			_, shows := light.Shows(api.Tilt{}, api.Tilt{}, 1, []api.Light{direction(0, 0, 1), l})
			got := []api.Errno{light.CheckLight(l), bright, shadows, picture, levels, flash, shows}
			if !slices.Equal(got, all(7, want)) {
				t.Error(f.name, n, got, "want", want)
			}
		}
	}
	for _, l := range []api.Light{{}, {X: 1}, {Y: 1}, {X: 30, Y: 30}, {X: 1, Y: 1, Z: -1}} {
		if e := light.CheckLight(l); e != api.ErrLight {
			t.Error(l, e)
		}
	}
	for _, l := range []api.Light{{Z: 1}, {Z: 30}, {X: 30, Y: 30, Z: 30}, {X: -30, Y: -30, Z: 1}, {X: -30, Y: 30, Z: 1}} {
		if e := light.CheckLight(l); e != api.OK {
			t.Error(l, e)
		}
	}
}

// TestFacetExamples: P6.1, the chapter's example, and others.
func TestFacetExamples(t *testing.T) {
	for i, x := range []struct {
		w, h    int
		heights []int
		want    []api.Tilt
	}{
		{3, 2, []int{0, 0, 4, 0, 0, 4}, []api.Tilt{{}, {X: 8}}},
		{2, 2, []int{0, 0, 0, 0}, []api.Tilt{{}}},
		{2, 2, []int{1, 2, 4, 8}, []api.Tilt{{X: 5, Y: 9}}},
		{2, 2, []int{1, 0, 0, 0}, []api.Tilt{{X: -1, Y: -1}}},
		{2, 2, []int{0, 1, 0, 0}, []api.Tilt{{X: 1, Y: -1}}},
		{2, 2, []int{0, 0, 1, 0}, []api.Tilt{{X: -1, Y: 1}}},
		{2, 2, []int{0, 0, 0, 1}, []api.Tilt{{X: 1, Y: 1}}},
		{2, 2, []int{5, 0, 0, 5}, []api.Tilt{{}}},
		{2, 2, []int{-100, 100, -100, 100}, []api.Tilt{{X: 400}}},
		{2, 2, []int{100, 100, -100, -100}, []api.Tilt{{Y: -400}}},
		{2, 3, []int{0, 0, 1, 2, 5, 9}, []api.Tilt{{X: 1, Y: 3}, {X: 5, Y: 11}}},
		{3, 3, []int{0, 1, 2, 10, 11, 12, 50, 60, 70}, []api.Tilt{{X: 2, Y: 20}, {X: 2, Y: 20}, {X: 11, Y: 89}, {X: 11, Y: 107}}},
	} {
		s := api.Surface{W: x.w, H: x.h, Pitch: 1 + i, Heights: x.heights}
		l, e := light.Facets(s)
		is(t, s, l, e, x.want...)
	}
}

// TestGreatestFacets: P6.1, the facets of a surface of MaxSide by MaxSide points, in the order of their indices.
func TestGreatestFacets(t *testing.T) {
	s := flat(24, 24, 100, 0)
	for i := range s.Heights {
		s.Heights[i] = (i*i+37*(i%24))%201 - 100
	}
	l, e := light.Facets(s)
	is(t, "facets", l, e, forCells(s, func(x, y int) api.Tilt { return tiltOf(s, x, y) })...)
	if len(l) != 23*23 {
		t.Error(len(l))
	}
	// A single high point tilts the four cells around it.
	for i := range s.Heights {
		s = flat(24, 24, 1, 0)
		s.Heights[i] = 3
		l, e := light.Facets(s)
		for at, tilt := range must(t, l, e) {
			x, y := i%24-at%23, i/24-at/23
			want := api.Tilt{}
			if (x == 0 || x == 1) && (y == 0 || y == 1) {
				want = api.Tilt{X: 6*x - 3, Y: 6*y - 3}
			}
			if tilt != want {
				t.Fatal(i, at, tilt, "want", want)
			}
		}
	}
}

// TestRandomFacets: P6.1, the facets of random surfaces; all of them are valid tilts.
func TestRandomFacets(t *testing.T) {
	r := rand.New(rand.NewSource(101))
	for i := range 500 {
		s := randomSurface(r, []int{4, 24}[i%2])
		l, e := light.Facets(s)
		is(t, s, l, e, forCells(s, func(x, y int) api.Tilt { return tiltOf(s, x, y) })...)
		for _, tilt := range l {
			if _, e := light.Bright(tilt, s.Pitch, direction(0, 0, 1)); e != api.OK {
				t.Fatal(s, tilt, e)
			}
		}
	}
}
