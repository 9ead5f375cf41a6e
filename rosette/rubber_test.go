package rosette

import (
	"math/rand"
	"slices"
	"testing"

	"barleycorn/api"
)

// bothOf returns the rubber of two rubbers, word by word as the chapter has it.
func bothOf(b, c []int) []int {
	v, w := len(b)/2, len(c)/2
	var both []int
	for k := -v - w; k <= v+w; k++ {
		least := api.MaxRise
		for i := -v; i <= v; i++ {
			if j := k - i; j >= -w && j <= w {
				least = min(least, b[v+i]+c[w+j])
			}
		}
		both = append(both, least)
	}
	return both
}

// TestBothExamples: P3.5, the chapter's example, rubbers that lean, and drops that would be above MaxRise.
func TestBothExamples(t *testing.T) {
	high := api.MaxRise
	for _, x := range []struct{ b, c, want []int }{
		{[]int{1, 0, 1}, []int{2, 0, 2}, []int{3, 1, 0, 1, 3}},
		{[]int{9000, 0, 1}, []int{9000, 0, 1}, []int{high, 9000, 0, 1, 2}},
		{[]int{5000, 0, 5000}, []int{5000, 0, 5001}, []int{high, 5000, 0, 5000, high}},
		{[]int{high, 0, high}, []int{high, 0, high - 1}, []int{high, high, 0, high - 1, high}},
		{[]int{5, 0, 7}, []int{0}, []int{5, 0, 7}}, {[]int{0}, []int{5, 0, 7}, []int{5, 0, 7}}, {[]int{0}, []int{0}, []int{0}},
		{[]int{1, 0, 9}, []int{7, 2, 0, 4, 4}, []int{8, 3, 1, 0, 4, 4, 13}},
	} {
		l, e := Both(x.b, x.c)
		is(t, "both", l, e, x.want...)
	}
}

// TestBothErrors: P3.5, how many drops the rubbers may have, alone and together, and the order of the errors.
func TestBothErrors(t *testing.T) {
	longest := all(api.MaxRubber, 0)
	for _, x := range []struct {
		b, c []int
		want api.Errno
	}{
		{all(15, 0), all(17, 0), api.OK}, {all(17, 0), all(17, 0), api.ErrMany}, {all(15, 0), all(19, 0), api.ErrMany},
		{longest, []int{0}, api.OK}, {[]int{0}, longest, api.OK}, {longest, []int{0, 0, 0}, api.ErrMany}, {[]int{1, 0, 1}, longest, api.ErrMany}, {longest, longest, api.ErrMany},
		{nil, []int{0}, api.ErrRubber}, {[]int{0}, nil, api.ErrRubber}, {[]int{0, 0}, longest, api.ErrRubber}, {longest, []int{0, 0, 0, 0}, api.ErrRubber},
		{longest, []int{0, 1, 0}, api.ErrRubber}, {[]int{0, 1, 0}, longest, api.ErrRubber}, {all(33, 0), []int{0}, api.ErrRubber}, {[]int{0}, all(33, 0), api.ErrRubber},
		{[]int{-1, 0, 0}, []int{0}, api.ErrRubber}, {[]int{0}, []int{0, 0, api.MaxRise + 1}, api.ErrRubber}, {[]int{leastInt, 0, greatestInt}, []int{greatestInt, 0, leastInt}, api.ErrRubber},
	} {
		l, e := Both(x.b, x.c)
		if e != x.want || e != api.OK && len(l) != 0 || e == api.OK && CheckRubber(l, api.MaxRubber) != api.OK {
			t.Error(x, l, e)
		}
	}
}

// TestUpon: P3.5, P3.9, a rubber upon another one is what the chapter says, and lifts as the one lifts what the other one lifts.
func TestUpon(t *testing.T) {
	r := rand.New(rand.NewSource(34))
	for range 1500 {
		n := 3 + r.Intn(94)
		most := []int{3, 40, api.MaxRise}[r.Intn(3)]
		b := randomRubber(r, n, most, 31)
		c := randomRubber(r, n, most, min(n, 31)+1-len(b))
		f := randomRosette(r, n, most)
		both, e := Both(b, c)
		is(t, "both", both, e, bothOf(b, c)...)
		l, e := Lift(f, both)
		is(t, "lift", l, e, liftOf(liftOf(f, b), c)...)
		is(t, "lift", l, e, liftOf(liftOf(f, c), b)...)
		l, e = Under(f, both)
		is(t, "under", l, e, underOf(underOf(f, c), b)...)
		if other, e := Both(c, b); e != api.OK || !slices.Equal(both, other) {
			t.Error(b, c, both, other, e)
		}
	}
}
