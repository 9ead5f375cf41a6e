package light_test

import (
	"math/big"
	"math/rand"
	"slices"
	"testing"

	"barleycorn/api"
	"barleycorn/light"
)

// shadowsAre reports an error unless just some facets of a surface lie in shadow.
func shadowsAre(t *testing.T, s api.Surface, l api.Light, dark ...int) {
	t.Helper()
	want := make([]bool, (s.W-1)*(s.H-1))
	for _, i := range dark {
		want[i] = true
	}
	got, e := light.Shadows(s, l)
	is(t, l, got, e, want...)
}

// pillar returns a flat surface of the pitch 1 but for the four corners of one cell, which have some height: its middle is four times that.
func pillar(w, h, x, y, height int) api.Surface {
	s := flat(w, h, 1, 0)
	for i := range 4 {
		s.Heights[(y+i/2)*w+x+i%2] = height
	}
	return s
}

// row returns a surface with one row of cells: the middle of each is twice the sum of two heights that follow each other.
func row(heights ...int) api.Surface {
	return api.Surface{W: len(heights), H: 2, Pitch: 1, Heights: append(slices.Clone(heights), heights...)}
}

// TestShadowExamples: P6.2, the chapter's examples.
func TestShadowExamples(t *testing.T) {
	shadowsAre(t, example(), direction(1, 0, 1), 0)
	shadowsAre(t, example(), direction(1, 0, 2))
	shadowsAre(t, example(), direction(2, 0, 1), 0)
	l, e := light.Levels(example(), direction(0, 0, 1), 16)
	is(t, "levels", l, e, 15, 0)
	p, e := light.Picture(example(), direction(0, 0, 1))
	is(t, "picture", p, e, shade(1, 1), shade(1, 17))
	p, e = light.Picture(example(), direction(-4, 0, 1))
	is(t, "picture", p, e, shade(1, 17), shade(1, 1))
}

// TestDirections: P6.2, lights with X and Y both 0, with one of them 0, and of either sign: a pillar throws its shadow away from the lamp.
func TestDirections(t *testing.T) {
	s := pillar(6, 6, 2, 2, 3) // a tall pillar in the cell (2, 2), the index 12: its middle is 12, those beside it 6, and 3 at its corners
	for _, x := range []struct {
		l    api.Light
		dark []int
	}{
		{direction(0, 0, 1), nil},
		{direction(0, 0, 30), nil},
		{direction(1, 0, 1), []int{10, 11}},
		{direction(-1, 0, 1), []int{13, 14}},
		{direction(0, 1, 1), []int{2, 7}},
		{direction(0, -1, 1), []int{17, 22}},
		{direction(1, 1, 1), []int{0, 1, 5, 6}},
		{direction(-1, 1, 1), []int{3, 4, 8, 9}},
		{direction(1, -1, 1), []int{15, 16, 20, 21}},
		{direction(-1, -1, 1), []int{18, 19, 23, 24}},
	} {
		if want := shadowsOf(s, x.l); !slices.Equal(darkOf(want), x.dark) {
			t.Error(x.l, darkOf(want), x.dark)
		}
		shadowsAre(t, s, x.l, x.dark...)
	}
}

// darkOf returns the indices of the cells that lie in shadow.
func darkOf(shadows []bool) (dark []int) {
	for i, is := range shadows {
		if is {
			dark = append(dark, i)
		}
	}
	return dark
}

// TestCommonDivisors: P6.2, the direction of a light as far as its steps go counts: with a common divisor the ray is as much lower as it is nearer.
func TestCommonDivisors(t *testing.T) {
	s := row(0, 0, 0, 0, 0, 0, 0, 0, 20)
	s.Pitch = 2
	// The middle of the last cell is 40: g * 40 has to be more than 8 * k * Z.
	for _, x := range []struct {
		l    api.Light
		dark []int
	}{
		{direction(1, 0, 2), []int{5, 6}},            // 40 against 16 * k
		{direction(2, 0, 5), []int{6}},               // 80 against 40 * k
		{direction(3, 0, 5), []int{5, 6}},            // 120 against 40 * k
		{direction(4, 0, 5), []int{4, 5, 6}},         // 160 against 40 * k
		{direction(30, 0, 29), []int{2, 3, 4, 5, 6}}, // 1200 against 232 * k
		{direction(1, 0, 5), nil},                    // 40 against 40
		{direction(1, 0, 4), []int{6}},               // 40 against 32
		{direction(5, 0, 1), []int{0, 1, 2, 3, 4, 5, 6}},
	} {
		shadowsAre(t, s, x.l, x.dark...)
	}
	// A multiple of a light whose X and Y have no common divisor.
	for _, l := range []api.Light{direction(2, 1, 3), direction(3, -2, 1), direction(-1, 2, 1), direction(-3, -1, 2)} {
		for k := 1; k <= 10; k++ {
			s := pillar(12, 12, 5, 5, 9)
			longer := direction(k*l.X, k*l.Y, k*l.Z)
			shadowsAre(t, s, longer, darkOf(shadowsOf(s, l))...)
		}
	}
}

// TestJustInShadow: P6.2, facets that just throw their shadow, and that just do not.
func TestJustInShadow(t *testing.T) {
	// Three points and one more: the middle of the second cell is 2 * (0 + h).
	for _, x := range []struct {
		h, pitch int
		l        api.Light
		is       bool
	}{
		{2, 1, direction(1, 0, 1), false}, {3, 1, direction(1, 0, 1), true}, {4, 1, direction(1, 0, 2), false}, {5, 1, direction(1, 0, 2), true},
		{6, 3, direction(1, 0, 1), false}, {7, 3, direction(1, 0, 1), true}, {1, 1, direction(2, 0, 1), false}, {2, 1, direction(2, 0, 1), true},
		{2, 5, direction(30, 0, 6), false}, {3, 5, direction(30, 0, 6), true}, {60, 1, direction(1, 0, 30), false}, {61, 1, direction(1, 0, 30), true},
		{100, 50, direction(1, 0, 1), false}, {100, 49, direction(1, 0, 1), true}, {100, 100, direction(2, 0, 1), false}, {100, 100, direction(30, 0, 14), true}, {100, 100, direction(30, 0, 15), false},
	} {
		s := row(0, 0, x.h)
		s.Pitch = x.pitch
		dark := []int{}
		if x.is {
			dark = append(dark, 0)
		}
		shadowsAre(t, s, x.l, dark...)
	}
	// A single unit of a middle: a corner that is higher by 1.
	for _, x := range []struct {
		more int
		is   bool
	}{{-1, false}, {0, false}, {1, true}} {
		s := row(0, 0, 2)
		s.Heights[5] += x.more
		got, e := light.Shadows(s, direction(1, 0, 1))
		is(t, x, got, e, x.is, false)
	}
	// From afar: the middle 20 of the last cell is more than 4 * k for a k up to 4.
	shadowsAre(t, row(0, 0, 0, 0, 0, 0, 5, 5), direction(1, 0, 1), 2, 3, 4, 5)
}

// TestJumps: P6.2, cells that a step jumps over throw no shadow, and neither do those beside its way.
func TestJumps(t *testing.T) {
	// From the cell (0, 0) the light 2 1 meets (2, 1) and (4, 2) alone.
	for y := range 5 {
		for x := range 5 {
			s := flat(6, 6, 1, 0)
			c := y*6 + x
			s.Heights[c], s.Heights[c+1], s.Heights[c+6], s.Heights[c+7] = 100, 100, 100, 100
			for _, l := range []api.Light{direction(2, 1, 1), direction(1, 2, 1), direction(3, 2, 1), direction(4, 1, 1), direction(20, 10, 10), direction(4, 4, 1), direction(3, 0, 1)} {
				got, e := light.Shadows(s, l)
				is(t, []any{x, y, l}, got, e, shadowsOf(s, l)...)
			}
		}
	}
	// The steps to the cells (2, 1) and (3, 1) jump over the pillar beside them.
	shadowsAre(t, pillar(6, 6, 1, 0, 100), direction(1, 0, 1), 0, 5)
	shadowsAre(t, pillar(6, 6, 1, 0, 100), direction(2, 1, 1))
	shadowsAre(t, pillar(6, 6, 1, 0, 100), direction(3, 1, 1))
	shadowsAre(t, pillar(6, 6, 2, 1, 100), direction(2, 1, 30), 0, 5)
}

// TestSurfaceEnds: P6.2, the surface ends at its last cells: nothing beyond them throws a shadow, on no side.
func TestSurfaceEnds(t *testing.T) {
	// The first row and the last column are high: a ray that left the surface on one side must not come in on another one.
	for _, side := range [][2]int{{2, 2}, {3, 3}, {5, 4}, {4, 7}, {2, 9}, {9, 2}} {
		w, h := side[0], side[1]
		for _, x := range []int{0, w - 1} {
			s := flat(w, h, 1, -100)
			for y := range h {
				s.Heights[y*w+x] = 100
			}
			for _, l := range around(1, 30) {
				shadowsAre(t, s, l, darkOf(shadowsOf(s, l))...)
			}
		}
		for _, y := range []int{0, h - 1} {
			s := flat(w, h, 1, -100)
			for x := range w {
				s.Heights[y*w+x] = 100
			}
			for _, l := range around(2, 1) {
				shadowsAre(t, s, l, darkOf(shadowsOf(s, l))...)
			}
		}
	}
}

// around returns lights of all sides, some far and some near.
func around(a, b int) (lights []api.Light) {
	for _, x := range []int{-b, -a, 0, a, b} {
		for _, y := range []int{-b, -a, 0, a, b} {
			lights = append(lights, direction(x, y, 1))
		}
	}
	return lights
}

// TestRandomPictures: P6.2, the shadows, the picture and the levels of random surfaces.
func TestRandomPictures(t *testing.T) {
	r := rand.New(rand.NewSource(104))
	dark, lit := 0, 0
	for i := range 1500 {
		s, l, n := randomSurface(r, []int{5, 9, 24}[i%3]), randomLight(r), 1+r.Intn([]int{3, 256}[i%2])
		shadows, e := light.Shadows(s, l)
		is(t, []any{s, l}, shadows, e, shadowsOf(s, l)...)
		picture, e := light.Picture(s, l)
		is(t, []any{s, l}, picture, e, pictureOf(s, l)...)
		levels, e := light.Levels(s, l, n)
		is(t, []any{s, l, n}, levels, e, levelsOf(picture, n)...)
		dark, lit = dark+count(shadows, true), lit+count(shadows, false)
		if t.Failed() {
			t.FailNow()
		}
	}
	if dark < 5000 || lit < 5000 {
		t.Error(dark, lit)
	}
}

// levelsOf returns the levels of shades, counted up as the chapter has it.
func levelsOf(shades []api.Shade, n int) (levels []int) {
	for _, s := range shades {
		level := 0
		for level+1 < n && big.NewRat(int64(level+1), int64(n)).Cmp(big.NewRat(int64(s.Num), int64(s.Den))) <= 0 {
			level++
		}
		levels = append(levels, level)
	}
	return levels
}

// TestLevelExamples: P6.2, levels of shades that are 0, 1, and just at the limit of a level.
func TestLevelExamples(t *testing.T) {
	// The shades of a flat surface under the light 30 0 z are z * z / (900 + z * z); of the light 0 0 1 it is 1.
	for _, x := range []struct {
		l    api.Light
		n    int
		want int
	}{
		{direction(0, 0, 1), 1, 0}, {direction(0, 0, 1), 2, 1}, {direction(0, 0, 1), 256, 255}, {direction(0, 0, 30), 255, 254},
		{direction(30, 0, 30), 1, 0}, {direction(30, 0, 30), 2, 1}, {direction(30, 0, 30), 3, 1}, {direction(30, 0, 30), 4, 2}, {direction(30, 0, 30), 256, 128}, {direction(30, 0, 30), 255, 127},
		{direction(30, 0, 29), 2, 0}, {direction(3, 0, 4), 25, 16}, {direction(3, 0, 4), 24, 15}, {direction(3, 0, 4), 26, 16}, {direction(2, 2, 1), 9, 1}, {direction(2, 2, 1), 8, 0},
		{direction(30, 30, 1), 256, 0}, {direction(10, 0, 1), 100, 0}, {direction(10, 0, 1), 101, 1}, {direction(10, 0, 1), 202, 2},
	} {
		l, e := light.Levels(flat(3, 3, 7, 5), x.l, x.n)
		is(t, x, l, e, all(4, x.want)...)
	}
	// Facets that turn away, or lie in shadow, have the shade 0.
	for _, n := range []int{1, 2, 256} {
		l, e := light.Levels(example(), direction(1, 0, 1), n)
		is(t, n, l, e, 0, 0)
	}
}

// TestLevelErrors: P6.2, numbers of levels at their limits and just beyond them; the errors of the surface and of the light come first.
func TestLevelErrors(t *testing.T) {
	for n, isValid := range (limit[int]{"n", nil, 1, 256}).around() {
		l, e := light.Levels(example(), direction(0, 0, 1), n)
		if isValid {
			is(t, n, l, e, n-1, n/17)
		} else {
			fails(t, n, l, e, api.ErrArg)
		}
		l, e = light.Levels(example(), api.Light{}, n)
		fails(t, n, l, e, api.ErrLight)
		l, e = light.Levels(api.Surface{}, api.Light{}, n)
		fails(t, n, l, e, api.ErrSurface)
		l, e = light.Levels(api.Surface{}, direction(0, 0, 1), n)
		fails(t, n, l, e, api.ErrSurface)
	}
}

// TestFlashExamples: P6.2, one light, and several of which the brightest ones are the same in a facet, or in all of which a facet lies in shadow.
func TestFlashExamples(t *testing.T) {
	for _, x := range []struct {
		lights []api.Light
		want   []int
	}{
		{[]api.Light{direction(0, 0, 1)}, []int{0, 0}},
		{[]api.Light{direction(1, 0, 1)}, []int{0, 0}}, // both are dark
		{[]api.Light{direction(1, 0, 1), direction(2, 0, 1)}, []int{0, 0}},
		{[]api.Light{direction(1, 0, 1), direction(-4, 0, 1)}, []int{1, 1}},
		{[]api.Light{direction(-4, 0, 1), direction(1, 0, 1)}, []int{0, 0}},
		{[]api.Light{direction(-4, 0, 1), direction(0, 0, 1)}, []int{1, 0}},
		{[]api.Light{direction(0, 0, 1), direction(-4, 0, 1), direction(0, 0, 2), direction(-8, 0, 2)}, []int{0, 1}},
		{[]api.Light{direction(1, 0, 1), direction(0, 0, 2), direction(-8, 0, 2), direction(-4, 0, 1), direction(0, 0, 1)}, []int{1, 2}},
		{[]api.Light{direction(2, 0, 1), direction(1, 0, 1), direction(0, 1, 1), direction(0, -1, 1)}, []int{2, 2}},
		{all(8, direction(0, 0, 1)), []int{0, 0}},
		{append(all(7, direction(1, 0, 1)), direction(-4, 0, 1)), []int{7, 7}},
	} {
		l, e := light.Flash(example(), x.lights)
		is(t, x.lights, l, e, x.want...)
	}
}

// TestFlashErrors: P6.2, no light, MaxLights and one more; lights that are not valid, several of them, wherever they are; in the order in which the errors are named.
func TestFlashErrors(t *testing.T) {
	for n, want := range map[int]api.Errno{0: api.ErrMany, 1: api.OK, 2: api.OK, 7: api.OK, 8: api.OK, 9: api.ErrMany, 100: api.ErrMany} {
		for _, bad := range [][]int{nil, {0}, {n - 1}, {n / 2}, {0, n - 1}} {
			lights, e := all(n, direction(1, 2, 3)), want
			for _, i := range bad {
				if n > 0 {
					lights[i] = []api.Light{{}, {Z: 31}, {X: 31, Z: 1}, {Y: -31, Z: 1}}[i%4]
				}
			}
			if e == api.OK && len(bad) > 0 {
				e = api.ErrLight
			}
			l, got := light.Flash(example(), lights)
			if e == api.OK {
				is(t, n, l, got, 0, 0)
			} else {
				fails(t, []any{n, bad}, l, got, e)
			}
			l, got = light.Flash(flat(2, 2, 0, 0), lights)
			fails(t, []any{n, bad}, l, got, api.ErrSurface)
		}
	}
	for _, lights := range [][]api.Light{nil, {}} {
		l, e := light.Flash(example(), lights)
		fails(t, lights, l, e, api.ErrMany)
	}
}

// TestRandomFlashes: P6.2, the first light of those in which a facet is the brightest.
func TestRandomFlashes(t *testing.T) {
	r := rand.New(rand.NewSource(105))
	ties := 0
	for i := range 400 {
		s, lights := randomSurface(r, []int{4, 8}[i%2]), []api.Light{}
		for range 1 + r.Intn(8) {
			lights = append(lights, randomLight(r))
		}
		if i%3 == 0 {
			lights[len(lights)-1] = lights[0]
		}
		want := forCells(s, func(x, y int) int { return 0 })
		for at := range want {
			best := new(big.Rat).SetInt64(-1)
			for k, l := range lights {
				p := pictureOf(s, l)[at]
				switch bright := big.NewRat(int64(p.Num), int64(p.Den)); bright.Cmp(best) {
				case 1:
					best, want[at] = bright, k
				case 0:
					ties++
				}
			}
		}
		l, e := light.Flash(s, lights)
		is(t, []any{s, lights}, l, e, want...)
	}
	if ties < 1000 {
		t.Error(ties)
	}
}

// TestPictureErrors: P6.2, the errors of Shadows and Picture in the order in which they are named.
func TestPictureErrors(t *testing.T) {
	for _, s := range []api.Surface{example(), {}, flat(2, 2, 101, 0)} {
		for _, l := range []api.Light{direction(1, 0, 1), {}, direction(31, 0, 1)} {
			want := light.Check(s)
			if want == api.OK {
				want = light.CheckLight(l)
			}
			_, shadows := light.Shadows(s, l)
			_, picture := light.Picture(s, l)
			if shadows != want || picture != want {
				t.Error(s, l, shadows, picture, "want", want)
			}
		}
	}
}
