package rosette

import (
	"math/rand"
	"slices"
	"testing"

	"barleycorn/api"
)

// contactsOf returns the steps that a rubber touches, word by word as the chapter has it.
func contactsOf(f, b []int, p int) []int {
	w, lift := len(b)/2, liftOf(f, b)
	var steps []int
	for q := range f {
		for j := -w; j <= w; j++ {
			if (p+j-q)%len(f) == 0 && f[q]-b[w+j] == lift[p] {
				steps = append(steps, q)
			}
		}
	}
	return steps
}

// TestContactsExamples: P3.4, the chapter's examples, and steps that are counted around.
func TestContactsExamples(t *testing.T) {
	flat := []int{0, 0, 0}
	for _, x := range []struct {
		f, b []int
		p    int
		want []int
	}{
		{[]int{6, 0, 6, 0, 0, 0}, flat, 1, []int{0, 2}}, {[]int{6, 0, 6, 0, 0, 0}, flat, 4, []int{3, 4, 5}},
		{[]int{6, 0, 6, 0, 0, 6}, flat, 0, []int{0, 5}}, {[]int{6, 0, 6, 0, 0, 6}, flat, 5, []int{0, 5}},
		{[]int{0, 9, 0, 0}, []int{7, 0, 2}, 0, []int{1}}, {[]int{0, 9, 0, 0}, []int{7, 0, 2}, 2, []int{1}}, {[]int{0, 9, 0, 0}, []int{7, 0, 2}, 3, []int{3}},
		{[]int{4, 6, 2}, []int{4, 0, 2}, 0, []int{0, 1}}, {[]int{2, 4, 6}, []int{4, 0, 2}, 0, []int{0, 1, 2}}, {[]int{2, 4, 6}, []int{4, 0, 2}, 1, []int{1, 2}}, {[]int{2, 4, 6}, []int{4, 0, 2}, 2, []int{2}},
		{all(5, 3), all(5, 0), 4, []int{0, 1, 2, 3, 4}}, {[]int{1, 2, 3}, []int{0}, 2, []int{2}},
	} {
		l, e := Contacts(x.f, x.b, x.p)
		is(t, "contacts", l, e, x.want...)
	}
}

// TestContactsSteps: P3.4, the middle has to be at a step, after the errors of the lists.
func TestContactsSteps(t *testing.T) {
	f, b := []int{1, 2, 3, 4}, []int{0, 0, 0}
	for _, x := range []struct {
		f, b []int
		p    int
		want api.Errno
	}{
		{f, b, -1, api.ErrArg}, {f, b, 0, api.OK}, {f, b, 3, api.OK}, {f, b, 4, api.ErrArg}, {f, b, 5, api.ErrArg},
		{f, b, leastInt, api.ErrArg}, {f, b, greatestInt, api.ErrArg},
		{f, all(5, 0), -1, api.ErrRubber}, {[]int{1, 2}, b, 2, api.ErrRosette},
		{all(96, 1), b, 95, api.OK}, {all(96, 1), b, 96, api.ErrArg},
	} {
		if l, e := Contacts(x.f, x.b, x.p); e != x.want || (e == api.OK) != (len(l) > 0) {
			t.Error(x, l, e)
		}
	}
}

// TestNeededExamples: P3.4, the chapter's examples, and steps that have the height 0.
func TestNeededExamples(t *testing.T) {
	flat := []int{0, 0, 0}
	for _, x := range []struct {
		f, b []int
		want []int
	}{
		{[]int{6, 6, 2, 6, 6, 6}, flat, nil}, {[]int{0, 5, 0, 0, 0, 0}, flat, []int{1}},
		{[]int{5, 0, 0, 0, 0, 7}, flat, []int{0, 5}}, {[]int{0, 0, 0}, []int{0}, nil}, {[]int{0, 1, 0}, []int{0}, []int{1}},
		{[]int{0, 0, 0, 0}, []int{1, 0, 1}, nil}, {[]int{1, 0, 2, 2}, []int{1, 0, 1}, []int{2, 3}}, {[]int{2, 0, 2, 2}, []int{1, 0, 1}, []int{0, 2, 3}}, {[]int{2, 4, 6}, []int{4, 0, 2}, []int{2}},
		{all(96, 1), []int{1, 0, 1}, func() (l []int) {
			for p := range 96 {
				l = append(l, p)
			}
			return l
		}()},
	} {
		l, e := Needed(x.f, x.b)
		is(t, "needed", l, e, x.want...)
	}
}

// TestContactsAndNeeded: P3.4, P3.10, for random rosettes and rubbers: the rubber touches somewhere, and the steps that are needed are those at which a height less by 1 changes the lift; they are above 0, and the only ones that are touched from some step.
func TestContactsAndNeeded(t *testing.T) {
	r := rand.New(rand.NewSource(33))
	for range 300 {
		f, b := randomPair(r)
		var changing, only []int
		for p := range f {
			l, e := Contacts(f, b, p)
			if len(l) == 0 {
				t.Fatal("no contact", f, b, p)
			}
			is(t, "contacts", l, e, contactsOf(f, b, p)...)
			if len(l) == 1 && f[l[0]] > 0 {
				only = append(only, l[0])
			}
			if f[p] > 0 && !slices.Equal(liftOf(with(f, p, f[p]-1), b), liftOf(f, b)) {
				changing = append(changing, p)
			}
		}
		l, e := Needed(f, b)
		is(t, "needed", l, e, changing...)
		slices.Sort(only)
		is(t, "needed, by its contacts", l, e, slices.Compact(only)...)
	}
}
