package light

import "barleycorn/api"

// Shadows returns which facets lie in shadow (P6.2).
func Shadows(s api.Surface, l api.Light) ([]bool, api.Errno) {
	lit, e := sceneOf(s, l)
	if e != api.OK {
		return nil, e
	}
	return picture(lit.relief, lit.isDark), api.OK
}

// Picture returns the picture of a surface (P6.2).
func Picture(s api.Surface, l api.Light) ([]api.Shade, api.Errno) {
	lit, e := sceneOf(s, l)
	if e != api.OK {
		return nil, e
	}
	return picture(lit.relief, lit.shade), api.OK
}

// Levels returns the levels of a picture (P6.2).
func Levels(s api.Surface, l api.Light, n int) ([]int, api.Errno) {
	shades, e := Picture(s, l)
	if e != api.OK {
		return nil, e
	}
	if !areWithin(1, api.MaxLevels, n) {
		return nil, api.ErrArg
	}
	levels := make([]int, len(shades))
	for i, shade := range shades {
		levels[i] = min(n*shade.Num/shade.Den, n-1)
	}
	return levels, api.OK
}

// Flash returns for each facet the light in which it is brightest (P6.2).
func Flash(s api.Surface, lights []api.Light) ([]int, api.Errno) {
	if e := Check(s); e != api.OK {
		return nil, e
	}
	if e := checkLights(lights); e != api.OK {
		return nil, e
	}
	var brightest []api.Shade
	flash := make([]int, (s.W-1)*(s.H-1))
	for i, l := range lights {
		shades, e := Picture(s, l)
		if e != api.OK {
			return nil, e
		}
		if i == 0 {
			brightest = shades
		}
		for facet, shade := range shades {
			if Compare(shade, brightest[facet]) > 0 {
				flash[facet], brightest[facet] = i, shade
			}
		}
	}
	return flash, api.OK
}

// A scene is a relief under a valid light.
type scene struct {
	relief
	light api.Light
	apart int // the greatest common divisor of X and Y of the light; 0 if both are 0
}

// sceneOf returns the scene of a surface under a light, or Check's or CheckLight's error.
func sceneOf(s api.Surface, l api.Light) (scene, api.Errno) {
	if e := Check(s); e != api.OK {
		return scene{}, e
	}
	if e := CheckLight(l); e != api.OK {
		return scene{}, e
	}
	return scene{relief{s}, l, divisor(max(l.X, -l.X), max(l.Y, -l.Y))}, api.OK
}

// isDark reports whether a cell lies in shadow. The ray to the lamp meets the middles of cells only where it has gone whole steps, and jumps over all others.
func (s scene) isDark(c cell) bool {
	if s.apart == 0 {
		return false
	}
	own, stepX, stepY := s.middle(c), s.light.X/s.apart, s.light.Y/s.apart
ray:
	for k := 1; ; k++ {
		c.x += stepX
		c.y += stepY
		switch {
		case !s.has(c):
			break ray
		case s.apart*(s.middle(c)-own) > 4*k*s.Pitch*s.light.Z:
			return true
		}
	}
	return false
}

// shade returns the shade of a cell in the picture.
func (s scene) shade(c cell) api.Shade {
	if s.isDark(c) {
		return api.Shade{Num: 0, Den: 1}
	}
	return bright(s.tilt(c), s.Pitch, s.light)
}
