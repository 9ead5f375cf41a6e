package groove_test

import (
	"math/rand"
	"slices"
	"testing"

	"barleycorn/api"
	"barleycorn/groove"
)

// distinct returns n slips of which only the first and the last one matter.
func distinct(n, first, last int) []int {
	l := all(n, 13)
	l[0], l[n-1] = first, last
	return l
}

// TestHideExamples: P5.5, the chapter's examples, one cut that was made, slips of either sign, and what is hidden already.
func TestHideExamples(t *testing.T) {
	for _, x := range []struct {
		made       []int
		left, most int
		want       []int
	}{
		{[]int{0, 0, 5}, 3, 2, []int{3, 1, 0}}, {[]int{5, 0, 0}, 3, 2, []int{0, 1, 3}}, {[]int{0, 0, -5}, 3, 2, []int{-3, -1, 0}}, {[]int{-5, 0, 0}, 3, 2, []int{0, -1, -3}},
		{[]int{0}, 0, 0, nil}, {[]int{7}, 0, 0, nil}, {[]int{-20}, 0, 20, nil}, {[]int{0}, 3, 0, all(3, 0)}, {[]int{7}, 1, 0, []int{7}}, {[]int{-7}, 3, 0, all(3, -7)}, {[]int{7}, 3, 5, []int{2, 0, 2}}, {[]int{20}, 60, 20, all(60, 0)}, {[]int{20}, 60, 0, all(60, 20)},
		{[]int{3, 1}, 0, 2, nil}, {[]int{1, 3}, 0, 2, nil}, {[]int{3, 19, -20, 3}, 0, 0, nil}, {[]int{2, -2}, 0, 4, nil}, {[]int{1, 9, 2}, 4, 2, all(4, 0)}, {[]int{2, -2}, 1, 2, []int{0}},
		{[]int{6, -6}, 2, 4, []int{-2, 2}}, {[]int{-6, 6}, 2, 4, []int{2, -2}}, {[]int{-3, 5}, 3, 2, []int{3, 1, -1}}, {[]int{-5, 4}, 2, 3, []int{1, -2}}, {[]int{-3, 5}, 5, 2, []int{3, 1, 0, 0, -1}},
		{[]int{20, 20}, 4, 6, []int{14, 8, 8, 14}}, {[]int{20, 20}, 5, 6, []int{14, 8, 2, 8, 14}}, {[]int{20, 20}, 7, 6, []int{14, 8, 2, 0, 2, 8, 14}}, {[]int{-20, 20}, 1, 20, []int{0}}, {[]int{-20, 20}, 60, 20, all(60, 0)},
	} {
		l, e := groove.Hide(x.made, x.left, x.most)
		is(t, x, l, e, x.want...)
	}
}

// TestSumDecides: P5.5, of those with as few slips that are not 0, those with the least sum.
func TestSumDecides(t *testing.T) {
	for _, x := range []struct {
		first, last, left, most int
		want                    []int
	}{
		{0, 9, 1, 5, []int{4}}, {0, -9, 1, 5, []int{-4}}, {9, 0, 1, 5, []int{4}}, {0, 9, 2, 5, []int{4, 0}}, {7, 9, 1, 3, []int{6}}, {-7, -9, 1, 3, []int{-6}}, {9, 9, 3, 3, []int{6, 3, 6}},
		{-1, 5, 2, 2, []int{3, 1}}, {1, -5, 2, 2, []int{-3, -1}}, {-1, 5, 2, 3, []int{2, 0}}, {-5, 5, 1, 6, []int{0}}, {-4, 6, 1, 5, []int{1}}, {-4, 6, 1, 6, []int{0}},
	} {
		l, e := groove.Hide(distinct(3, x.first, x.last), x.left, x.most)
		is(t, x, l, e, x.want...)
	}
}

// TestJustHidden: P5.5, P5.10, what can just be hidden, and what just cannot.
func TestJustHidden(t *testing.T) {
	for _, x := range []struct {
		first, last, left, most int
		want                    []int
	}{
		{0, 8, 3, 2, []int{6, 4, 2}}, {8, 0, 3, 2, []int{2, 4, 6}}, {0, -8, 3, 2, []int{-6, -4, -2}}, {-4, 4, 3, 2, []int{2, 0, -2}}, {20, -20, 1, 20, []int{0}}, {20, -20, 3, 10, []int{-10, 0, 10}}, {0, 2, 0, 2, nil},
		{-20, 20, 39, 1, []int{19, 18, 17, 16, 15, 14, 13, 12, 11, 10, 9, 8, 7, 6, 5, 4, 3, 2, 1, 0, -1, -2, -3, -4, -5, -6, -7, -8, -9, -10, -11, -12, -13, -14, -15, -16, -17, -18, -19}},
	} {
		made := distinct(4, x.first, x.last)
		l, e := groove.Hide(made, x.left, x.most)
		is(t, x, l, e, x.want...)
		if x.most > 0 {
			if l, e := groove.Hide(made, x.left, x.most-1); e != api.ErrNone || len(l) > 0 {
				t.Error(x, l, e)
			}
		}
		if x.left > 0 {
			if l, e := groove.Hide(made, x.left-1, x.most); e != api.ErrNone || len(l) > 0 {
				t.Error(x, l, e)
			}
		}
	}
	for _, x := range []struct{ first, last, left, most int }{{0, 9, 3, 2}, {0, -9, 3, 2}, {9, 0, 3, 2}, {1, 0, 60, 0}, {0, 3, 0, 2}, {3, 0, 0, 2}, {20, -20, 0, 20}, {20, -20, 38, 1}, {20, -20, 0, 0}} {
		if l, e := groove.Hide(distinct(2, x.first, x.last), x.left, x.most); e != api.ErrNone || len(l) > 0 {
			t.Error(x, l, e)
		}
	}
}

// TestHideErrors: P5.5, no cut made, one, MaxFamily and one more; left, most and slips at both limits and just beyond them; too many cuts come before all other errors, and these before slips that do not exist.
func TestHideErrors(t *testing.T) {
	for _, x := range []struct {
		made       []int
		left, most int
		want       api.Errno
	}{
		{nil, 1, 1, api.ErrArg}, {[]int{}, 1, 1, api.ErrArg}, {[]int{0}, 1, 1, api.OK}, {all(60, 0), 1, 1, api.OK}, {all(61, 0), 1, 1, api.ErrMany}, {all(1000, 0), 1, 1, api.ErrMany},
		{all(61, 21), 1, 1, api.ErrMany}, {all(61, 0), -1, 1, api.ErrMany}, {all(61, 0), 61, 21, api.ErrMany}, {distinct(61, 0, 9), 0, 0, api.ErrMany}, {all(60, 0), 61, 1, api.ErrArg},
		{[]int{20}, 1, 1, api.OK}, {[]int{-20}, 1, 1, api.OK}, {[]int{21}, 1, 1, api.ErrArg}, {[]int{-21}, 1, 1, api.ErrArg}, {[]int{0, 21, 0}, 1, 1, api.ErrArg}, {[]int{0, -21, 0}, 1, 1, api.ErrArg}, {[]int{0, 0, 21}, 1, 20, api.ErrArg}, {[]int{leastInt, 0}, 1, 1, api.ErrArg}, {[]int{0, greatestInt}, 1, 1, api.ErrArg}, {[]int{leastInt, greatestInt}, 1, 1, api.ErrArg}, {[]int{0, 20, -20, 0}, 1, 1, api.OK},
		{[]int{0}, -1, 1, api.ErrArg}, {[]int{0}, 0, 1, api.OK}, {[]int{0}, 60, 1, api.OK}, {[]int{0}, 61, 1, api.ErrArg}, {[]int{0}, leastInt, 1, api.ErrArg}, {[]int{0}, greatestInt, 1, api.ErrArg},
		{[]int{0}, 1, -1, api.ErrArg}, {[]int{0}, 1, 0, api.OK}, {[]int{0}, 1, 20, api.OK}, {[]int{0}, 1, 21, api.ErrArg}, {[]int{0}, 1, leastInt, api.ErrArg}, {[]int{0}, 1, greatestInt, api.ErrArg},
		{[]int{20, -20}, 1, 1, api.ErrNone}, {[]int{20, -20}, -1, 1, api.ErrArg}, {[]int{20, -20}, 1, -1, api.ErrArg}, {[]int{20, 21, -20}, 1, 1, api.ErrArg}, {[]int{20, -20}, 61, 0, api.ErrArg},
	} {
		if l, e := groove.Hide(x.made, x.left, x.most); e != x.want || e == api.OK && len(l) != x.left || e != api.OK && len(l) > 0 {
			t.Error(x, l, e)
		}
	}
}

// A try is slips, and what decides between them.
type try struct {
	slips     []int
	many, sum int
}

// with returns a try with one more slip.
func (l try) with(slip int) try {
	next := try{slips: append(slices.Clone(l.slips), slip), many: l.many, sum: l.sum + max(slip, -slip)}
	if slip != 0 {
		next.many++
	}
	return next
}

// isBefore reports whether a try is to be returned rather than another one.
func (l try) isBefore(other try) bool {
	switch {
	case l.many != other.many:
		return l.many < other.many
	case l.sum != other.sum:
		return l.sum < other.sum
	}
	return slices.Compare(l.slips, other.slips) < 0
}

// hidden returns the slips that hide a slip, by trying all slips of at most so much; nil if there are none.
func hidden(first, last, left, most, width int) *try {
	var best *try
	var more func(l try, last int)
	more = func(l try, last int) {
		if len(l.slips) == left {
			if max(last-first, first-last) <= most && (best == nil || l.isBefore(*best)) {
				best = &l
			}
			return
		}
		for slip := max(last-most, -width); slip <= min(last+most, width); slip++ {
			more(l.with(slip), slip)
		}
	}
	more(try{}, last)
	return best
}

// TestHideAll: P5.5 and P5.10, all slips from -4 to 4, and a few more: what is returned is the first of all that hide them.
func TestHideAll(t *testing.T) {
	for first := -4; first <= 4; first++ {
		for last := -4; last <= 4; last++ {
			for left := range 5 {
				for most := range 4 {
					best := hidden(first, last, left, most, 6)
					l, e := groove.Hide(distinct(2, first, last), left, most)
					if best == nil {
						if e != api.ErrNone || len(l) > 0 {
							t.Fatal(first, last, left, most, l, e)
						}
						continue
					}
					is(t, []any{first, last, left, most}, l, e, best.slips...)
				}
			}
		}
	}
}

// bestTo returns the best slips up to each slip: cut by cut, the best of those that end in it.
func bestTo(last, left, most int) map[int]try {
	best := map[int]try{last: {}}
	for range left {
		next := map[int]try{}
		for before, l := range best {
			for slip := max(before-most, -api.MaxSlip); slip <= min(before+most, api.MaxSlip); slip++ {
				if other, known := next[slip]; !known || l.with(slip).isBefore(other) {
					next[slip] = l.with(slip)
				}
			}
		}
		best = next
	}
	return best
}

// TestRandomHides: P5.5 and P5.10, for random slips: the best of all; and if there are none, the first and the last cut differ by more than most for each step.
func TestRandomHides(t *testing.T) {
	r := rand.New(rand.NewSource(72))
	none := 0
	for range 150 {
		made := make([]int, 1+r.Intn(api.MaxFamily))
		for i := range made {
			made[i] = r.Intn(2*api.MaxSlip+1) - api.MaxSlip
		}
		left, most := r.Intn(13), r.Intn(9)
		if r.Intn(10) == 0 {
			left, most = r.Intn(api.MaxFamily+1), r.Intn(3)
		}
		first, last := made[0], made[len(made)-1]
		var best *try
		for slip, l := range bestTo(last, left, most) {
			if max(slip-first, first-slip) <= most && (best == nil || l.isBefore(*best)) {
				best = &l
			}
		}
		l, e := groove.Hide(made, left, most)
		if (e == api.ErrNone) != (max(first-last, last-first) > most*(left+1)) {
			t.Fatal(made, left, most, l, e)
		}
		if best == nil {
			none++
			if e != api.ErrNone || len(l) > 0 {
				t.Fatal(made, left, most, l, e)
			}
			continue
		}
		is(t, []any{made, left, most}, l, e, best.slips...)
	}
	if none < 20 || none > 100 {
		t.Error("only", none)
	}
}
