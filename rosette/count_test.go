package rosette

import (
	"math/big"
	"math/rand"
	"testing"

	"barleycorn/api"
)

// TestCountExamples: P3.3, the chapter's examples, and other small ones.
func TestCountExamples(t *testing.T) {
	flat := []int{0, 0, 0}
	for _, x := range []struct {
		lift, b []int
		want    int
	}{
		{[]int{1, 1, 1, 0, 0, 0}, flat, 1}, {[]int{2, 2, 2, 2}, flat, 33}, {[]int{0, 5, 5, 0, 0, 0}, flat, 0},
		{[]int{1, 1, 1}, flat, 7}, {[]int{0, 0, 0}, flat, 1}, {[]int{0, 0, 0}, []int{0}, 1}, {[]int{3, 9, 2}, []int{0}, 1},
		{[]int{4, 5, 4, 0, 0, 0}, []int{1, 0, 1}, 4},
		{all(7, 1), all(7, 0), 127}, {all(8, 1), all(7, 0), 255 - 8}, {all(3, api.MaxRise), []int{api.MaxRise, 0, api.MaxRise}, 1},
	} {
		if n, e := Count(x.lift, x.b); n != x.want || e != api.OK {
			t.Error(x, n, e)
		}
	}
}

// TestCountMany: P3.3, a rubber may have MaxCount drops; with more the error is ErrMany, after the errors of the lists, and also where no rosette has the lift.
func TestCountMany(t *testing.T) {
	for _, x := range []struct {
		lift, b []int
		want    api.Errno
	}{
		{all(9, 1), all(api.MaxCount, 0), api.OK}, {all(9, 1), all(api.MaxCount+2, 0), api.ErrMany},
		{with(all(96, 0), 50, 1), all(api.MaxRubber, 0), api.ErrMany}, {with(all(96, 0), 50, 1), all(api.MaxCount, 0), api.OK},
		{all(8, 1), all(api.MaxCount+2, 0), api.ErrRubber}, {all(9, 1), with(all(api.MaxCount+2, 0), 4, 1), api.ErrRubber},
		{all(9, 1), all(api.MaxCount+1, 0), api.ErrRubber}, {all(9, 1), with(all(api.MaxCount+2, 0), 0, -1), api.ErrRubber},
		{all(9, -1), all(api.MaxCount+2, 0), api.ErrRosette}, {all(97, 0), all(api.MaxCount+2, 0), api.ErrRosette},
	} {
		if n, e := Count(x.lift, x.b); e != x.want || e != api.OK && n != 0 {
			t.Error(x, n, e)
		}
	}
}

// TestCountAll: P3.3, against trying all rosettes with few steps and small heights.
func TestCountAll(t *testing.T) {
	for _, x := range []struct{ n, drops, drop, most int }{{3, 1, 0, 2}, {3, 3, 3, 3}, {4, 3, 2, 2}, {5, 5, 1, 2}, {6, 3, 1, 2}, {7, 7, 0, 2}, {8, 5, 0, 1}} {
		for b := range rubbers(x.drops, x.drop) {
			counts := map[[8]int]int{}
			for f := range rosettes(x.n, x.most) {
				counts[[8]int(append(liftOf(f, b), all(8-x.n, 0)...))]++
			}
			for lift := range rosettes(x.n, x.most) {
				want := counts[[8]int(append(append([]int{}, lift...), all(8-x.n, 0)...))]
				if n, e := Count(lift, b); n != want || e != api.OK {
					t.Fatal(lift, b, n, e, "want", want)
				}
			}
		}
	}
}

// modulo returns a number modulo CountBase.
func modulo(n *big.Int) int {
	return int(new(big.Int).Mod(n, big.NewInt(api.CountBase)).Int64())
}

// level returns how many rosettes of n steps have the lift h everywhere, by a rubber with so many drops of 0. Between two steps with the height h there are fewer lower ones than the rubber has drops, so a rosette is a chain of such steps, each with the lower ones behind it; the one around the beginning may begin at as many places as it is long.
func level(n, drops, h int) *big.Int {
	link := func(length int) *big.Int {
		return new(big.Int).Exp(big.NewInt(int64(h)), big.NewInt(int64(length-1)), nil)
	}
	chains := []*big.Int{big.NewInt(1)}
	for m := 1; m <= n; m++ {
		sum := new(big.Int)
		for length := 1; length <= min(m, drops); length++ {
			sum.Add(sum, new(big.Int).Mul(link(length), chains[m-length]))
		}
		chains = append(chains, sum)
	}
	sum := new(big.Int)
	for length := 1; length <= min(n, drops); length++ {
		ways := new(big.Int).Mul(link(length), chains[n-length])
		sum.Add(sum, ways.Mul(ways, big.NewInt(int64(length))))
	}
	return sum
}

// TestCountLevel: P3.3, counts that are large are taken modulo CountBase: all heights the same, to MaxSteps steps and MaxRise.
func TestCountLevel(t *testing.T) {
	large := 0
	for drops := 1; drops <= api.MaxCount; drops += 2 {
		for _, n := range []int{3, 4, 7, 8, 13, 20, 95, 96} {
			for _, h := range []int{0, 1, 2, 999, api.MaxRise} {
				if drops > n {
					continue
				}
				want := level(n, drops, h)
				if want.Cmp(big.NewInt(api.CountBase)) >= 0 {
					large++
				}
				if got, e := Count(all(n, h), all(drops, 0)); got != modulo(want) || e != api.OK {
					t.Error(n, drops, h, got, e, "want", want)
				}
			}
		}
	}
	if large < 40 {
		t.Error("only", large, "large counts")
	}
}

// A matrix has, for two states of the steps before and after, in how many ways the one becomes the other.
type matrix [][]*big.Int

// countOf returns how many rosettes have a lift: the sum, over all states of the last steps, of the ways in which the state is the same again after all steps. It is found by multiplying the matrices of all steps.
func countOf(lift, b []int) *big.Int {
	most, w := underOf(lift, b), len(b)/2
	states := 1 << (2 * w)
	ways := make(matrix, states)
	for s := range ways {
		ways[s] = make([]*big.Int, states)
		for t := range ways[s] {
			ways[s][t] = new(big.Int)
		}
		ways[s][s].SetInt64(1)
	}
	for q := range lift {
		for s := range ways {
			row := make([]*big.Int, states)
			for t := range row {
				row[t] = new(big.Int)
			}
			for before, n := range ways[s] {
				for full := range 2 {
					window := before*2 + full // the latest step has the lowest bit
					if !touchesOne(lift, most, b, q-w, window) {
						continue
					}
					times := n
					if full == 0 {
						times = new(big.Int).Mul(n, big.NewInt(int64(most[q])))
					}
					row[window%states].Add(row[window%states], times)
				}
			}
			ways[s] = row
		}
	}
	sum := new(big.Int)
	for s := range ways {
		sum.Add(sum, ways[s][s])
	}
	return sum
}

// touchesOne reports whether one of the full steps around p gives the lift at p.
func touchesOne(lift, most, b []int, p, window int) bool {
	w := len(b) / 2
	for j := -w; j <= w; j++ {
		if window>>(w-j)&1 == 1 && at(most, p+j)-b[w+j] == at(lift, p) {
			return true
		}
	}
	return false
}

// TestCountRandom: P3.3, against another way of counting, for random lifts and rubbers of all sizes.
func TestCountRandom(t *testing.T) {
	r := rand.New(rand.NewSource(32))
	large, none := 0, 0
	for i := range 150 {
		n := 3 + r.Intn(94)
		b := randomRubber(r, n, 1+i%3, 5+i%2*2)
		f := randomRosette(r, n, []int{1, 2, 4, 30, 10000}[r.Intn(5)])
		for p := range f { // plateaus leave room below them
			if r.Intn(3) > 0 {
				f[p] = f[0]
			}
		}
		lift := liftOf(f, b)
		if i%5 == 0 {
			lift[r.Intn(n)]++
			lift[0] = min(lift[0], api.MaxRise)
		}
		if Check(lift) != api.OK {
			continue
		}
		want := countOf(lift, b)
		if want.Cmp(big.NewInt(api.CountBase)) >= 0 {
			large++
		}
		if want.Sign() == 0 {
			none++
		}
		if got, e := Count(lift, b); got != modulo(want) || e != api.OK {
			t.Error(lift, b, got, e, "want", want)
		}
	}
	if large < 20 || none < 10 {
		t.Error("only", large, "large counts, and none", none)
	}
}

// TestCountFound: P3.3, P3.8, none is counted exactly where none is found.
func TestCountFound(t *testing.T) {
	for b := range rubbers(3, 2) {
		for lift := range rosettes(5, 2) {
			n, e := Count(lift, b)
			if _, found := Find(lift, b); e != api.OK || (found == api.OK) != (n > 0) {
				t.Fatal(lift, b, n, e, found)
			}
		}
	}
}
