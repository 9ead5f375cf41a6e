package pattern

import (
	"math/rand"
	"slices"
	"testing"

	"barleycorn/api"
	"barleycorn/exact"
	"barleycorn/motion"
)

// arm returns an arm with a C of whole numbers.
func arm(k, x, y int) api.Arm {
	return api.Arm{K: k, C: api.Turn{X: exact.FromInt(x), Y: exact.FromInt(y)}}
}

// TestAroundExamples: P4.8, P4.12, the chapter's example, and orders of 0, of 1 and of more.
func TestAroundExamples(t *testing.T) {
	hypo := []api.Arm{arm(-2, 100, 0), arm(1, 200, 0)} // of the order 3
	for _, x := range []struct {
		path []api.Arm
		want map[int]int
	}{
		{hypo, map[int]int{1: 1, 2: 2, 3: 1, 4: 4, 6: 2, 9: 3, 12: 4, 999: 333, 1000: 1000}},
		{hypo[1:], map[int]int{1: 1, 2: 1, 12: 1, 1000: 1}}, // a circle: order 0
		{nil, map[int]int{1: 1, 7: 1, 1000: 1}},             // the place 0
		{[]api.Arm{arm(0, 3, 4)}, map[int]int{1: 1, 2: 2, 7: 7, 1000: 1000}},
		{[]api.Arm{arm(0, 5, 0), arm(1, 0, 7)}, map[int]int{1: 1, 2: 2, 12: 12}},
		{[]api.Arm{arm(-64, 1, 0), arm(64, 1, 0)}, map[int]int{1: 1, 2: 1, 4: 2, 999: 999, 1000: 500}}, // to and fro, 64 times
		{[]api.Arm{arm(-4, 30, 0), arm(1, 400, 0), arm(6, 30, 0)}, map[int]int{1: 1, 5: 1, 10: 2, 6: 6, 1000: 200}},
		{[]api.Arm{arm(-4, 100, 0), arm(2, 200, 0)}, map[int]int{2: 2, 3: 1, 6: 2}}, // the first one, gone through twice
	} {
		for n, want := range x.want {
			if k, e := Around(x.path, n); k != want || e != api.OK {
				t.Error(x.path, n, k, e, "want", want)
			}
		}
	}
}

// TestAroundErrors: P4.8, paths that are refused, and then n at its limits and just beyond them.
func TestAroundErrors(t *testing.T) {
	good := []api.Arm{arm(-2, 100, 0), arm(1, 200, 0)}
	var many []api.Arm
	for k := range api.MaxArms + 1 {
		many = append(many, arm(k, 1, 1))
	}
	broken := slices.Clone(good)
	broken[1].C.Y = api.Frac{}
	for i, x := range []struct {
		path []api.Arm
		n    int
		want api.Errno
	}{
		{good, 0, api.ErrArg}, {good, 1, api.OK}, {good, api.MaxParts, api.OK}, {good, api.MaxParts + 1, api.ErrArg}, {good, -1, api.ErrArg}, {good, leastInt, api.ErrArg}, {good, greatestInt, api.ErrArg},
		{many, 1, api.ErrMany}, {many, 0, api.ErrMany}, {many[:api.MaxArms], 1, api.OK}, {many[:api.MaxArms], 0, api.ErrArg}, {nil, 0, api.ErrArg}, {good[1:], 1001, api.ErrArg},
		{broken, 1, api.ErrPath}, {broken, 0, api.ErrPath}, {[]api.Arm{arm(1, 1, 0), arm(1, 1, 0)}, 1, api.ErrPath}, {[]api.Arm{arm(2, 1, 0), arm(1, 1, 0)}, 1001, api.ErrPath},
		{[]api.Arm{arm(65, 1, 0)}, 1, api.ErrPath}, {[]api.Arm{arm(leastInt, 1, 0)}, 1, api.ErrPath}, {[]api.Arm{arm(1, 0, 0)}, 1, api.ErrPath},
	} {
		if k, e := Around(x.path, x.n); e != x.want || (e == api.OK) != (k > 0) {
			t.Error(i, k, e)
		}
	}
}

// isTurnedBy reports whether a path that is turned by k / n of a turn is, place by place, the path: whether some y makes all K * y the same as k / n, but for whole numbers. The y that do so for the first arm with a K that is not 0 are (k / n + z) / K, for whole numbers z.
func isTurnedBy(path []api.Arm, k, n int) bool {
	first := slices.IndexFunc(path, func(a api.Arm) bool { return a.K != 0 })
	if first < 0 {
		return len(path) == 0 || k%n == 0
	}
	of := path[first].K
	for z := range max(of, -of) {
		if !slices.ContainsFunc(path, func(a api.Arm) bool { return (a.K*(k+n*z)-k*of)%(n*of) != 0 }) {
			return true
		}
	}
	return false
}

// TestRandomAround: P4.8, P4.12, for random paths: counted one by one which of the curves are the same, and by the order.
func TestRandomAround(t *testing.T) {
	r := rand.New(rand.NewSource(53))
	less := 0
	for range 300 {
		step := 1 + r.Intn(6)
		first := r.Intn(40) - 20
		var path []api.Arm
		for i := range 1 + r.Intn(4) {
			if k := first + i*step; r.Intn(4) > 0 && k <= api.MaxK {
				path = append(path, arm(k, 1+r.Intn(9), r.Intn(9)))
			}
		}
		n := 1 + r.Intn(40)
		var curves []int // the turns of those that are different
		for k := range n {
			if !slices.ContainsFunc(curves, func(c int) bool { return isTurnedBy(path, k-c, n) }) {
				curves = append(curves, k)
			}
		}
		got, e := Around(path, n)
		if got != len(curves) || e != api.OK {
			t.Fatal(path, n, got, e, "want", len(curves))
		}
		order, e := motion.Order(path)
		want := 1
		if order > 0 {
			want = n / divisor(n, order)
		}
		if got != want || e != api.OK {
			t.Fatal(path, n, got, "of the order", order)
		}
		if got > 1 && got < n {
			less++
		}
	}
	if less < 30 {
		t.Error("only", less)
	}
}

// TestQuarters: P4.8, cut 2 and 4 times around, a path that is gone through once makes one curve exactly if layer 2 says that the path, turned by a half, or by a quarter, draws the same one.
func TestQuarters(t *testing.T) {
	for _, path := range [][]api.Arm{
		{arm(-2, 100, 0), arm(1, 200, 0)}, {arm(-1, 100, 7), arm(1, 200, 0)}, {arm(-3, 100, 0), arm(1, 200, 9)}, {arm(-3, 5, 0), arm(1, 200, 9), arm(5, 1, 1)},
		{arm(-7, 5, 0), arm(1, 200, 9)}, {arm(0, 1, 0), arm(1, 2, 0)}, {arm(1, 2, 3)}, {arm(0, 2, 3)}, nil,
	} {
		for n, by := range map[int]api.Turn{2: arm(0, -1, 0).C, 4: arm(0, 0, 1).C} {
			turned := slices.Clone(path)
			for i, a := range path {
				c, e := exact.MulTurn(a.C, by)
				turned[i].C = must(t, c, e)
			}
			same, e := motion.Same(path, turned, 0)
			if k, f := Around(path, n); e != api.OK || f != api.OK || (k == 1) != same {
				t.Error(path, n, k, same, e, f)
			}
		}
	}
}
