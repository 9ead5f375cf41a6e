package motion

import (
	"math/rand"
	"slices"
	"testing"

	"barleycorn/api"
)

// TestTrain: P2.6, the chapter's examples, and which of several trains is the first one.
func TestTrain(t *testing.T) {
	four := []int{20, 30, 45, 60}
	for _, x := range []struct {
		wheels   []int
		num, den int
		want     []int
	}{
		{four, 2, 3, []int{0, 1}},
		{four, 3, 1, []int{3, 0}},
		{four, 2, 1, []int{3, 1}},
		{four, 1, 2, []int{1, 3}},
		{four, 8, 9, []int{0, 1, 3, 2}},
		{four, 1, 1, nil},
		{four, 7, 1, nil},
		{four, 4, 6, []int{0, 1}},
		{four, 96, 96, nil},
		{four, 9, 8, []int{1, 0, 2, 3}},
		{nil, 1, 1, nil},
		{[]int{20}, 1, 1, nil},
		{[]int{20, 20}, 1, 1, []int{0, 1}},
		{[]int{20, 30, 20}, 1, 1, []int{0, 2}},
		{[]int{20, 30, 40}, 2, 1, []int{2, 0}},
		{[]int{12, 24, 48, 24}, 1, 2, []int{0, 1}},
		{[]int{12, 24, 48, 24}, 2, 1, []int{1, 0}},
		{[]int{12, 24, 48, 24}, 1, 1, []int{1, 3}},
		{[]int{24, 12, 36, 12}, 6, 1, []int{0, 1, 2, 3}},
		{[]int{12, 24, 12, 36}, 6, 1, []int{1, 0, 3, 2}},
		{[]int{12, 24, 48, 36}, 8, 3, []int{1, 0, 2, 3}},
		{[]int{192, 12, 72, 12}, 96, 1, []int{0, 1, 2, 3}},
		{[]int{12, 192, 12, 72}, 1, 96, []int{0, 1, 2, 3}},
		{[]int{200, 12}, 50, 3, []int{0, 1}},
		{[]int{100, 101, 102, 103, 104, 105}, 1, 1, nil},
		{[]int{100, 101, 110, 103, 104, 105}, 11, 10, []int{2, 0}},
	} {
		l, e := Train(x.wheels, x.num, x.den)
		want := api.OK
		if x.want == nil {
			want = api.ErrNone
		}
		if e != want || !slices.Equal(l, x.want) {
			t.Error(x, l, e)
		}
	}
}

// TestTrainErrors: P2.6, too many wheels, wheels and ratios that are not in range, and the order of these errors.
func TestTrainErrors(t *testing.T) {
	many := func(n, teeth int) []int { return slices.Repeat([]int{teeth}, n) }
	for _, x := range []struct {
		wheels   []int
		num, den int
		e        api.Errno
	}{
		{many(16, 20), 1, 1, api.OK},
		{many(17, 20), 1, 1, api.ErrMany},
		{many(17, 0), 0, 0, api.ErrMany},
		{many(16, 12), 1, 1, api.OK},
		{many(16, 11), 1, 1, api.ErrArg},
		{many(16, 200), 1, 1, api.OK},
		{many(16, 201), 1, 1, api.ErrArg},
		{[]int{20, 20, 0}, 1, 1, api.ErrArg},
		{[]int{20, 20, -20}, 1, 1, api.ErrArg},
		{[]int{20, 20, leastInt}, 1, 1, api.ErrArg},
		{[]int{greatestInt, 20, 20}, 1, 1, api.ErrArg},
		{many(2, 20), 0, 1, api.ErrArg},
		{many(2, 20), 1, 0, api.ErrArg},
		{many(2, 20), -1, -1, api.ErrArg},
		{many(2, 20), -1, 1, api.ErrArg},
		{many(2, 20), 97, 97, api.ErrArg},
		{many(2, 20), 97, 1, api.ErrArg},
		{many(2, 20), 1, 97, api.ErrArg},
		{many(2, 20), leastInt, leastInt, api.ErrArg},
		{many(2, 20), greatestInt, greatestInt, api.ErrArg},
		{many(2, 20), 96, 96, api.OK},
		{many(2, 20), 96, 95, api.ErrNone},
		{nil, 97, 1, api.ErrArg},
		{nil, 96, 1, api.ErrNone},
	} {
		if l, e := Train(x.wheels, x.num, x.den); e != x.e || e != api.OK && len(l) > 0 {
			t.Error(x, l, e)
		}
	}
}

// firstOfAll returns the least of all trains of so many wheels, or nil.
func firstOfAll(wheels []int, num, den, count int) []int {
	var best []int
	n := len(wheels)
	total := 1
	for range count {
		total *= n
	}
	for code := range total {
		var train []int
		for c, i := code, 0; i < count; c, i = c/n, i+1 {
			train = append(train, c%n)
		}
		sorted := slices.Sorted(slices.Values(train))
		if len(slices.Compact(sorted)) < count {
			continue
		}
		above, below := den, num
		for i, w := range train {
			if i%2 == 0 {
				above *= wheels[w]
			} else {
				below *= wheels[w]
			}
		}
		if above == below && (best == nil || slices.Compare(train, best) < 0) {
			best = train
		}
	}
	return best
}

// TestTrainOfAll: P2.6, the train is the first one of all trains.
func TestTrainOfAll(t *testing.T) {
	r := rand.New(rand.NewSource(9))
	lengths := map[int]int{}
	for range 600 {
		var wheels []int
		for range r.Intn(7) {
			wheels = append(wheels, 12+[]int{r.Intn(9), 4 * r.Intn(12), 12 * r.Intn(9)}[r.Intn(3)])
		}
		num, den := 1+r.Intn(4), 1+r.Intn(4)
		if len(wheels) >= 4 {
			above, below := wheels[0]*wheels[1], wheels[2]*wheels[3]
			common := divisor(above, below)
			num, den = above/common, below/common
		}
		if num > api.MaxRatio || den > api.MaxRatio {
			continue
		}
		want := firstOfAll(wheels, num, den, 2)
		if want == nil {
			want = firstOfAll(wheels, num, den, 4)
		}
		l, e := Train(wheels, num, den)
		if !slices.Equal(l, want) || (e == api.ErrNone) != (want == nil) || (e == api.OK) != (want != nil) {
			t.Fatal(wheels, num, den, l, e, want)
		}
		lengths[len(want)]++
	}
	if lengths[0] < 30 || lengths[2] < 30 || lengths[4] < 30 {
		t.Error("the test needs other wheels:", lengths)
	}
}
