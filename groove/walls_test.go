package groove_test

import (
	"math/rand"
	"slices"
	"testing"

	"barleycorn/api"
	"barleycorn/groove"
)

// TestWallsExamples: P5.3, the chapter's examples.
func TestWallsExamples(t *testing.T) {
	w := even(cut(21, 0, 0, 100, 0), cut(21, 0, 29, 100, 29))
	w.Tool, w.Wall = chapterTool(), 10
	l, e := groove.Walls(w)
	is(t, "Play 0", l, e)
	w.Play = 1
	l, e = groove.Walls(w)
	is(t, "Play 1", l, e, pairs(0, 1)...)
}

// TestJustKept: P5.3, pairs that just keep a wall, and pairs that break it by one, whatever it is made of, and whether none, one or both of the cuts may Cross.
func TestJustKept(t *testing.T) {
	for _, x := range []struct{ first, second, wall, play, apart int }{
		{0, 0, 1, 0, 1}, {0, 0, 1000, 0, 1000}, {0, 0, 1, 100, 301}, {0, 0, 5, 1, 8}, {10, 0, 1, 0, 11}, {0, 10, 1, 0, 11}, {10, 7, 3, 0, 20}, {7, 10, 3, 2, 26}, {1000, 1000, 1000, 100, 3300}, {1000, 999, 2, 0, 2001},
	} {
		for _, short := range []int{0, 1} {
			for mayCross := range 4 {
				w := even(cut(x.first, 0, 0, 100, 0), cut(x.second, 0, x.apart-short, 100, x.apart-short))
				w.Wall, w.Play = x.wall, x.play
				w.Cuts[0].Cross, w.Cuts[1].Cross = mayCross&1 != 0, mayCross&2 != 0
				var want []api.Pair
				if short == 1 && mayCross != 3 {
					want = pairs(0, 1)
				}
				l, e := groove.Walls(w)
				is(t, []any{x, short, mayCross}, l, e, want...)
			}
		}
	}
}

// TestReachOfCuts: P5.3, reaches are the halves at the high depths, not at the low ones.
func TestReachOfCuts(t *testing.T) {
	w := even(cut(21, 0, 0, 100, 0), cut(4, 0, 0, 100, 0))
	w.Tool = chapterTool() // the high depths are 13 and 5, the reaches 9 and 5
	for apart, want := range map[int][]api.Pair{14: pairs(0, 1), 15: nil, 16: nil, 0: pairs(0, 1), 13: pairs(0, 1)} {
		w.Cuts[1].Spots = line(0, apart, 100, apart)
		l, e := groove.Walls(w)
		is(t, apart, l, e, want...)
	}
}

// TestManyWalls: P5.3, all pairs, in increasing order of A, then of B, and distances that are no whole numbers.
func TestManyWalls(t *testing.T) {
	w := even()
	for i := range api.MaxCuts {
		w.Cuts = append(w.Cuts, cut(1, 0, 3*(i*5%16)))
	}
	l, e := groove.Walls(w) // each cut is 3 from the next ones, which is just enough
	is(t, "all", l, e)
	w.Wall = 2
	l, e = groove.Walls(w)
	is(t, "neighbours", l, e, wallsOf(w)...)
	if len(l) != 15 || !slices.IsSortedFunc(l, func(p, q api.Pair) int { return 100*(p.A-q.A) + p.B - q.B }) {
		t.Error(l)
	}
	w.Wall = 1000
	l, e = groove.Walls(w)
	is(t, "each two", l, e, wallsOf(w)...)
	if len(l) != 120 {
		t.Error(len(l))
	}
	for wall, want := range map[int][]api.Pair{1: nil, 2: pairs(0, 1)} {
		w = even(cut(1, 0, 0), cut(1, 3, 1)) // the square of the distance is 10
		w.Wall = wall
		l, e = groove.Walls(w)
		is(t, wall, l, e, want...)
	}
}

// TestDeep: P5.3, cuts that are too deep by one, and just not, by their high depth.
func TestDeep(t *testing.T) {
	w := even(cut(21, 0, 0), cut(4, 0, 0), cut(0, 0, 0), cut(22, 0, 0), cut(23, 9, 9), cut(1000, 9, 9))
	w.Tool = chapterTool() // the high depths are 13, 5, 3, 14, 14 and 503
	for deepest, want := range map[int][]int{0: {0, 1, 2, 3, 4, 5}, 2: {0, 1, 2, 3, 4, 5}, 3: {0, 1, 3, 4, 5}, 4: {0, 1, 3, 4, 5}, 5: {0, 3, 4, 5}, 12: {0, 3, 4, 5}, 13: {3, 4, 5}, 14: {5}, 502: {5}, 503: nil, 20000: nil} {
		w.Deepest = deepest
		l, e := groove.Deep(w)
		is(t, deepest, l, e, want...)
	}
	w = even(cut(0, 0, 0), cut(1, 0, 0))
	l, e := groove.Deep(w)
	is(t, "0", l, e, 1)
}

// wrong returns a line with errors of the machine.
func wrong(r *rand.Rand, l []api.Spot, play int) []api.Spot {
	return changed(l, func(s api.Spot) api.Spot {
		x, y := r.Intn(2*play+1)-play, r.Intn(2*play+1)-play
		if r.Intn(4) > 0 {
			x, y = play*(r.Intn(2)*2-1), play*(r.Intn(2)*2-1)
		}
		return api.Spot{X: s.X + x, Y: s.Y + y}
	})
}

// TestErrorsOfMachine: P5.8, if no pair breaks a wall, with any errors of at most Play two cuts that may not cross have their reaches and Wall between them.
func TestErrorsOfMachine(t *testing.T) {
	r := rand.New(rand.NewSource(66))
	for range 300 {
		w := even(api.Cut{Spots: randomLine(r, 2, 30), Press: r.Intn(5)}, api.Cut{Spots: randomLine(r, 2, 30), Press: r.Intn(5), Cross: r.Intn(2) == 0})
		w.Wall, w.Play = 1+r.Intn(5), 1+r.Intn(20)
		x, y := r.Intn(3), 1+r.Intn(3)
		for { // the least number of steps away
			l, e := groove.Walls(w)
			if len(must(t, l, e)) == 0 {
				break
			}
			w.Cuts[1].Spots = moved(w.Cuts[1].Spots, x, y)
		}
		for range 20 {
			a, b := wrong(r, w.Cuts[0].Spots, w.Play), wrong(r, w.Cuts[1].Spots, w.Play)
			if isNearer(a, b, w.Cuts[0].Press+w.Cuts[1].Press+w.Wall) {
				t.Fatal(w, a, b)
			}
		}
	}
}

// TestMoreBreaksMore: P5.8, with more Wall, or more Play, all walls that were broken still are.
func TestMoreBreaksMore(t *testing.T) {
	r := rand.New(rand.NewSource(67))
	more := 0
	for range 400 {
		w := randomWork(r, 6)
		l, e := groove.Walls(w)
		l = must(t, l, e)
		for range 4 {
			other := w
			if r.Intn(2) == 0 {
				other.Wall += r.Intn(30)
			} else {
				other.Play += r.Intn(10)
			}
			k, e := groove.Walls(other)
			k = must(t, k, e)
			for _, pair := range l {
				if !slices.Contains(k, pair) {
					t.Fatal(w, pair, "is better with", other.Wall, other.Play)
				}
			}
			if len(k) > len(l) {
				more++
			}
		}
	}
	if more < 100 {
		t.Error("only", more)
	}
}
