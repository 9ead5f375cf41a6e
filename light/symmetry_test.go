package light_test

import (
	"math/rand"
	"slices"
	"testing"

	"barleycorn/api"
	"barleycorn/light"
)

// A plane is values in rows and columns.
type plane[V any] struct {
	w, h   int
	values []V
}

// turned returns a plane that is turned by a quarter: what went to the right goes down.
func (p plane[V]) turned() plane[V] {
	q := plane[V]{p.h, p.w, make([]V, len(p.values))}
	for i, v := range p.values {
		x, y := i%p.w, i/p.w
		q.values[x*q.w+q.w-1-y] = v
	}
	return q
}

// mirrored returns a plane whose right side is left.
func (p plane[V]) mirrored() plane[V] {
	q := plane[V]{p.w, p.h, slices.Clone(p.values)}
	for row := range slices.Chunk(q.values, q.w) {
		slices.Reverse(row)
	}
	return q
}

// A scene is a surface, a light, and what has been found.
type scene struct {
	s       api.Surface
	l       api.Light
	shadows plane[bool]
	picture plane[api.Shade]
}

// turned returns a scene that is turned by a quarter.
func (c scene) turned() scene {
	p := plane[int]{c.s.W, c.s.H, c.s.Heights}.turned()
	return scene{api.Surface{W: p.w, H: p.h, Pitch: c.s.Pitch, Heights: p.values}, direction(-c.l.Y, c.l.X, c.l.Z), c.shadows.turned(), c.picture.turned()}
}

// mirrored returns a scene that is mirrored.
func (c scene) mirrored() scene {
	p := plane[int]{c.s.W, c.s.H, c.s.Heights}.mirrored()
	return scene{api.Surface{W: p.w, H: p.h, Pitch: c.s.Pitch, Heights: p.values}, direction(-c.l.X, c.l.Y, c.l.Z), c.shadows.mirrored(), c.picture.mirrored()}
}

// sceneOf returns the scene of a surface and a light.
func sceneOf(t *testing.T, s api.Surface, l api.Light) scene {
	t.Helper()
	shadows, e := light.Shadows(s, l)
	picture, f := light.Picture(s, l)
	return scene{s, l, plane[bool]{s.W - 1, s.H - 1, must(t, shadows, e)}, plane[api.Shade]{s.W - 1, s.H - 1, must(t, picture, f)}}
}

// check reports an error unless a scene has just what was found.
func (c scene) check(t *testing.T, what string) {
	t.Helper()
	got := sceneOf(t, c.s, c.l)
	if !slices.Equal(got.shadows.values, c.shadows.values) || !slices.Equal(got.picture.values, c.picture.values) {
		t.Fatal(what, c, "gives", got)
	}
}

// TestTurned: P6.6, if the surface and the light are turned by a quarter, or mirrored, so is the picture, with its shadows; after four quarters, or two mirrors, all is as before.
func TestTurned(t *testing.T) {
	r := rand.New(rand.NewSource(106))
	dark := 0
	for i := range 500 {
		c := sceneOf(t, randomSurface(r, []int{4, 10, 24}[i%3]), randomLight(r))
		dark += count(c.shadows.values, true)
		around := c
		for range 4 {
			around = around.turned()
			around.check(t, "turned")
			around.mirrored().check(t, "turned and mirrored")
		}
		if !slices.Equal(around.s.Heights, c.s.Heights) || around.l != c.l || !slices.Equal(around.picture.values, c.picture.values) {
			t.Fatal(c, "turned around whole is", around)
		}
		c.mirrored().mirrored().check(t, "mirrored twice")
	}
	if dark < 2000 {
		t.Error(dark)
	}
}

// TestRaised: P6.6, raising the whole surface changes nothing.
func TestRaised(t *testing.T) {
	r := rand.New(rand.NewSource(107))
	for i := range 500 {
		c := sceneOf(t, randomSurface(r, []int{4, 24}[i%2]), randomLight(r))
		facets, e := light.Facets(c.s)
		facets = must(t, facets, e)
		raised := c
		raised.s = copied(c.s)
		most, least := slices.Max(c.s.Heights), slices.Min(c.s.Heights)
		by := r.Intn(201-most+least) - 100 - least
		for i := range raised.s.Heights {
			raised.s.Heights[i] += by
		}
		raised.check(t, "raised")
		l, e := light.Facets(raised.s)
		is(t, c.s, l, e, facets...)
	}
}

// TestHigherLight: P6.7, a higher light puts no facet into shadow that did not lie in it, and the highest facets never lie in shadow.
func TestHigherLight(t *testing.T) {
	r := rand.New(rand.NewSource(108))
	fewer := 0
	for i := range 300 {
		s, l := randomSurface(r, []int{4, 10}[i%2]), randomLight(r)
		middles := forCells(s, func(x, y int) int { return middleOf(s, x, y) })
		highest := slices.Max(middles)
		var before []bool
		for l.Z = 1; l.Z <= 30; l.Z++ {
			shadows, e := light.Shadows(s, l)
			shadows = must(t, shadows, e)
			for at, is := range shadows {
				if is && (before != nil && !before[at] || middles[at] == highest) {
					t.Fatal(s, l, at)
				}
				if !is && before != nil && before[at] {
					fewer++
				}
			}
			before = shadows
		}
	}
	if fewer < 200 {
		t.Error(fewer)
	}
}

// TestFlat: P6.7, a flat surface has no shadows, and one shade.
func TestFlat(t *testing.T) {
	r := rand.New(rand.NewSource(109))
	for range 500 {
		s, l := flat(2+r.Intn(23), 2+r.Intn(23), 1+r.Intn(100), r.Intn(201)-100), randomLight(r)
		shadowsAre(t, s, l)
		p, e := light.Picture(s, l)
		is(t, []any{s, l}, p, e, all(len(p), shadeOf(cosine(api.Tilt{}, s.Pitch, l)))...)
	}
}
