package rosette

import (
	"math/rand"
	"slices"
	"testing"

	"barleycorn/api"
)

// The least and the greatest int.
const (
	leastInt    = -1 << 63
	greatestInt = 1<<63 - 1
)

// must returns a result that has to come without an error.
func must[T any](t *testing.T, result T, e api.Errno) T {
	t.Helper()
	if e != api.OK {
		t.Fatalf("error %d", e)
	}
	return result
}

// sound makes of a function of a rosette and a rubber one that has to come without an error.
func sound(t *testing.T, call func(f, b []int) ([]int, api.Errno)) func(f, b []int) []int {
	return func(f, b []int) []int {
		t.Helper()
		l, e := call(f, b)
		return must(t, l, e)
	}
}

// is reports an error unless a call has given a list.
func is(t *testing.T, what string, l []int, e api.Errno, want ...int) {
	t.Helper()
	if e != api.OK || !slices.Equal(l, want) {
		t.Error(what, l, e, "want", want)
	}
}

// all returns a list of n times the same height.
func all(n, h int) []int {
	l := make([]int, n)
	for i := range l {
		l[i] = h
	}
	return l
}

// with returns a copy of a list with another number at an index.
func with(l []int, i, h int) []int {
	l = slices.Clone(l)
	l[i] = h
	return l
}

// reversed returns a copy of a list from its end.
func reversed(l []int) []int {
	l = slices.Clone(l)
	slices.Reverse(l)
	return l
}

// randomRosette returns a rosette of n steps with heights to most; every second one has heights that often come again.
func randomRosette(r *rand.Rand, n, most int) []int {
	f := make([]int, n)
	for p := range f {
		f[p] = r.Intn(most + 1)
	}
	if r.Intn(2) == 0 {
		for p := range f {
			f[p] = f[r.Intn(1+len(f)/3)]
		}
	}
	return f
}

// randomRubber returns a rubber for n steps with drops to most, at most so many of them.
func randomRubber(r *rand.Rand, n, most, drops int) []int {
	w := r.Intn((min(n, drops, api.MaxRubber)-1)/2 + 1)
	b := make([]int, 2*w+1)
	for i := range b {
		b[i] = r.Intn(most + 1)
	}
	b[w] = 0
	return b
}

// randomPair returns a rosette and a rubber for it: small ones, those with many steps, and those with the greatest heights.
func randomPair(r *rand.Rand) (f, b []int) {
	switch r.Intn(3) {
	case 0:
		n := 3 + r.Intn(6)
		return randomRosette(r, n, 4), randomRubber(r, n, 3, 31)
	case 1:
		n := 3 + r.Intn(94)
		return randomRosette(r, n, 12), randomRubber(r, n, 5, 31)
	}
	n := 3 + r.Intn(40)
	return randomRosette(r, n, api.MaxRise), randomRubber(r, n, api.MaxRise, 31)
}

// at returns the height of a rosette at any step, counted around.
func at(f []int, p int) int {
	for p < 0 {
		p += len(f)
	}
	for p >= len(f) {
		p -= len(f)
	}
	return f[p]
}

// liftOf returns the lift of a rosette, word by word as the chapter has it.
func liftOf(f, b []int) []int {
	w := len(b) / 2
	var l []int
	for p := range f {
		var heights []int
		for j := -w; j <= w; j++ {
			heights = append(heights, at(f, p+j)-b[w+j])
		}
		l = append(l, slices.Max(heights))
	}
	return l
}

// underOf returns what is under a list, word by word as the chapter has it.
func underOf(f, b []int) []int {
	w := len(b) / 2
	var l []int
	for p := range f {
		var sums []int
		for j := -w; j <= w; j++ {
			sums = append(sums, at(f, p-j)+b[w+j])
		}
		l = append(l, slices.Min(sums))
	}
	return l
}

// isBelow reports whether a rosette is below another one.
func isBelow(f, g []int) bool {
	for p := range f {
		if f[p] > g[p] {
			return false
		}
	}
	return len(f) == len(g)
}

// rosettes yields all lists of n heights from 0 to most. They use the same memory.
func rosettes(n, most int) func(yield func([]int) bool) {
	return func(yield func([]int) bool) {
		f := make([]int, n)
		for {
			if !yield(f) {
				return
			}
			p := 0
			for p < n && f[p] == most {
				f[p] = 0
				p++
			}
			if p == n {
				return
			}
			f[p]++
		}
	}
}

// rubbers yields all rubbers of so many drops from 0 to most. They use the same memory.
func rubbers(drops, most int) func(yield func([]int) bool) {
	return func(yield func([]int) bool) {
		for b := range rosettes(drops, most) {
			if b[drops/2] == 0 && !yield(b) {
				return
			}
		}
	}
}
