package light_test

import (
	"math/big"
	"math/rand"
	"slices"
	"testing"

	"barleycorn/api"
)

// The least and the greatest int.
const (
	leastInt    = -1 << 63
	greatestInt = 1<<63 - 1
)

// must returns a result that has to come without an error.
func must[T any](t *testing.T, result T, e api.Errno) T {
	t.Helper()
	if e != api.OK {
		t.Fatalf("error %d", e)
	}
	return result
}

// is reports an error unless a call has given a list.
func is[V comparable](t *testing.T, what any, l []V, e api.Errno, want ...V) {
	t.Helper()
	if e != api.OK || !slices.Equal(l, want) {
		t.Error(what, l, e, "want", want)
	}
}

// fails reports an error unless a call has given an error, and no list.
func fails[V any](t *testing.T, what any, l []V, e, want api.Errno) {
	t.Helper()
	if e != want || len(l) > 0 {
		t.Error(what, l, e, "want", want)
	}
}

// all returns a list of n times the same value.
func all[V any](n int, v V) []V { return slices.Repeat([]V{v}, n) }

// A limit is a field of something with its limits.
type limit[T any] struct {
	name        string
	field       func(*T) *int
	least, most int
}

// around are numbers at the limits of a field, just beyond them, and far away, with whether they are valid.
func (l limit[T]) around() map[int]bool {
	return map[int]bool{
		l.least: true, l.most: true, l.least + 1: true, l.most - 1: true, l.least - 1: false, l.most + 1: false,
		leastInt: false, greatestInt: false, l.least - 1000000: false, l.most + 1000000: false,
	}
}

// lightFields are the numbers of a light.
func lightFields() []limit[api.Light] {
	return []limit[api.Light]{
		{"X", func(l *api.Light) *int { return &l.X }, -30, 30},
		{"Y", func(l *api.Light) *int { return &l.Y }, -30, 30},
		{"Z", func(l *api.Light) *int { return &l.Z }, 1, 30},
	}
}

// tiltFields are the numbers of a tilt.
func tiltFields() []limit[api.Tilt] {
	return []limit[api.Tilt]{
		{"X", func(t *api.Tilt) *int { return &t.X }, -400, 400},
		{"Y", func(t *api.Tilt) *int { return &t.Y }, -400, 400},
	}
}

// example is the surface of the chapter's examples.
func example() api.Surface {
	return api.Surface{W: 3, H: 2, Pitch: 1, Heights: []int{0, 0, 4, 0, 0, 4}}
}

// flat returns a surface without slopes.
func flat(w, h, pitch, height int) api.Surface {
	return api.Surface{W: w, H: h, Pitch: pitch, Heights: all(w*h, height)}
}

// copied returns a surface with memory of its own.
func copied(s api.Surface) api.Surface {
	s.Heights = slices.Clone(s.Heights)
	return s
}

// shade returns a shade.
func shade(num, den int) api.Shade { return api.Shade{Num: num, Den: den} }

// direction returns a light.
func direction(x, y, z int) api.Light { return api.Light{X: x, Y: y, Z: z} }

// randomSurface returns a surface, steep enough that there are shadows, with some flat ones.
func randomSurface(r *rand.Rand, side int) api.Surface {
	s := api.Surface{W: 2 + r.Intn(side-1), H: 2 + r.Intn(side-1), Pitch: []int{1, 2, 5, 30, 100}[r.Intn(5)]}
	rise := []int{0, 1, 3, 20, 100}[r.Intn(5)]
	for range s.W * s.H {
		h := r.Intn(2*rise+1) - rise
		if r.Intn(3) == 0 {
			h = -rise
		}
		s.Heights = append(s.Heights, h)
	}
	return s
}

// randomLight returns a light, often a low one.
func randomLight(r *rand.Rand) api.Light {
	side := []int{1, 2, 5, 30}[r.Intn(4)]
	return api.Light{X: r.Intn(2*side+1) - side, Y: r.Intn(2*side+1) - side, Z: 1 + r.Intn([]int{1, 3, 30}[r.Intn(3)])}
}

// randomTilt returns a tilt.
func randomTilt(r *rand.Rand) api.Tilt {
	most := []int{1, 5, 40, 400}[r.Intn(4)]
	return api.Tilt{X: r.Intn(2*most+1) - most, Y: r.Intn(2*most+1) - most}
}

// heightOf returns the height of a point.
func heightOf(s api.Surface, x, y int) int { return s.Heights[y*s.W+x] }

// tiltOf returns the tilt of a cell, as the chapter has it.
func tiltOf(s api.Surface, x, y int) (t api.Tilt) {
	for i := range 2 {
		t.X += heightOf(s, x+1, y+i) - heightOf(s, x, y+i)
		t.Y += heightOf(s, x+i, y+1) - heightOf(s, x+i, y)
	}
	return t
}

// middleOf returns the middle of a cell.
func middleOf(s api.Surface, x, y int) (sum int) {
	for i := range 4 {
		sum += heightOf(s, x+i%2, y+i/2)
	}
	return sum
}

// cosine returns the square of the cosine between a facet's normal and a light; 0 if the light is behind the facet.
func cosine(t api.Tilt, pitch int, l api.Light) *big.Rat {
	normal, lamp := [3]int{-t.X, -t.Y, 2 * pitch}, [3]int{l.X, l.Y, l.Z}
	dot, a, b := 0, 0, 0
	for i := range 3 {
		dot, a, b = dot+normal[i]*lamp[i], a+normal[i]*normal[i], b+lamp[i]*lamp[i]
	}
	if dot <= 0 {
		return new(big.Rat)
	}
	return big.NewRat(int64(dot*dot), int64(a*b))
}

// shadeOf returns a fraction as a shade.
func shadeOf(r *big.Rat) api.Shade {
	return api.Shade{Num: int(r.Num().Int64()), Den: int(r.Denom().Int64())}
}

// isShadowed reports whether a cell lies in shadow: whether another cell, just in the direction of the light, rises above the ray. Any such cell is so many steps of X / g and Y / g away as off / g, where far is how far X and Y go, and off how far the cell is.
func isShadowed(s api.Surface, l api.Light, x, y int) bool {
	for v := range s.H - 1 {
		for u := range s.W - 1 {
			dx, dy := u-x, v-y
			isAlong := dx*l.Y == dy*l.X && dx*l.X+dy*l.Y > 0
			far, off := size(l.X)+size(l.Y), size(dx)+size(dy)
			if isAlong && far*(middleOf(s, u, v)-middleOf(s, x, y)) > 4*off*s.Pitch*l.Z {
				return true
			}
		}
	}
	return false
}

// size returns the absolute value.
func size(n int) int { return max(n, -n) }

// forCells returns what a function gives for each cell.
func forCells[V any](s api.Surface, of func(x, y int) V) []V {
	var l []V
	for y := range s.H - 1 {
		for x := range s.W - 1 {
			l = append(l, of(x, y))
		}
	}
	return l
}

// shadowsOf returns which cells lie in shadow.
func shadowsOf(s api.Surface, l api.Light) []bool {
	return forCells(s, func(x, y int) bool { return isShadowed(s, l, x, y) })
}

// pictureOf returns the picture of a surface.
func pictureOf(s api.Surface, l api.Light) []api.Shade {
	return forCells(s, func(x, y int) api.Shade {
		if isShadowed(s, l, x, y) {
			return shade(0, 1)
		}
		return shadeOf(cosine(tiltOf(s, x, y), s.Pitch, l))
	})
}

// count returns how often a list has something.
func count[V comparable](l []V, v V) (n int) {
	for _, x := range l {
		if x == v {
			n++
		}
	}
	return n
}
