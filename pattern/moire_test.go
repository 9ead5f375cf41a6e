package pattern

import (
	"math/rand"
	"slices"
	"testing"

	"barleycorn/api"
)

// TestMoireExamples: P4.5, the chapter's example, beats of one and of several, programs with different periods, and with different numbers of steps.
func TestMoireExamples(t *testing.T) {
	six := func(period int, shifts ...int) api.Program {
		return plain(slices.Repeat(peak(period), 6/period), shifts...)
	}
	twelve := func(period int, shifts ...int) api.Program {
		return plain(slices.Repeat(peak(period), 12/period), shifts...)
	}
	long := with(all(api.MaxShifts, 0), 4, 1)
	for i, x := range []struct {
		p, q           api.Program
		together, beat int
		e              api.Errno
	}{
		{flames(1), flames(2), 3, 3, api.OK}, {flames(1), flames(4), 3, 1, api.OK}, {barley(2), barley(0, 2), 4, 2, api.OK}, {flames(1), flames(0), 3, 3, api.OK},
		{six(6, 1), six(6, 1), 6, 1, api.OK}, {six(6, 1), six(6, 3), 6, 3, api.OK}, {six(6, 1), six(6, 5), 6, 3, api.OK}, {six(6, 1), six(6, 2), 6, 6, api.OK},
		{six(6, 1), six(3, 1), 6, 1, api.OK}, {six(6, 1), six(3, 2), 6, 3, api.OK}, {six(6, 2), six(2, 1), 6, 2, api.OK}, {six(2, 1), six(3, 1), 6, 1, api.OK}, {six(2, 1), six(1, 5), 2, 1, api.OK},
		{six(2, 1), six(3, 2), 6, 1, api.OK}, {twelve(4, 1), twelve(6, 2), 12, 2, api.OK}, {twelve(4, 1), twelve(6, 1), 12, 1, api.OK}, {twelve(6, 5), twelve(4, 2), 6, 2, api.OK},
		{six(1, 1), six(1, 5), 1, 1, api.OK}, {six(6, 1, 0), six(6, 0, 1), 12, 2, api.OK}, {six(6, 1, 0, 0, 0), six(6, 0, 0, 0, 0, 1), 60 * 2, 6, api.OK},
		{plain(peak(96), long...), plain(peak(96), append([]int{2}, all(10, 0)...)...), 12672, 96, api.OK},
		{flames(1), barley(1), 0, 0, api.ErrArg}, {barley(1), flames(1), 0, 0, api.ErrArg}, {plain(all(3, 0), 0), plain(all(4, 0), 0), 0, 0, api.ErrArg},
	} {
		if together, beat, e := Moire(x.p, x.q); together != x.together || beat != x.beat || e != x.e {
			t.Error(i, together, beat, e)
		}
	}
}

// TestRandomMoire: P4.5, for random programs: the least number after which both close, and the differences of phases, counted.
func TestRandomMoire(t *testing.T) {
	r := rand.New(rand.NewSource(50))
	beats := map[int]int{}
	for range 400 {
		p := randomProgram(r, 14, 4)
		q := p
		q.Shifts = randomShifts(r, len(p.Rosette), 4)
		if r.Intn(2) == 0 {
			for period := 1 + r.Intn(8); ; period-- {
				if len(p.Rosette)%period == 0 {
					q.Rosette = slices.Repeat(randomList(r, period, 1), len(p.Rosette)/period)
					break
				}
			}
		}
		closes, others := closesOf(p), closesOf(q)
		together := 1
		for together%closes != 0 || together%others != 0 {
			together++
		}
		common := 1
		for d := range 15 {
			if d > 0 && periodOf(liftOf(p))%d == 0 && periodOf(liftOf(q))%d == 0 {
				common = d
			}
		}
		seen := map[int]bool{}
		all := len(p.Shifts) * len(q.Shifts) * len(p.Rosette)
		a, b := 0, 0
		for j := range all {
			seen[mod(a-b, common)] = true
			a, b = a+p.Shifts[j%len(p.Shifts)], b+q.Shifts[j%len(q.Shifts)]
		}
		if n, beat, e := Moire(p, q); n != together || beat != len(seen) || e != api.OK {
			t.Fatal(p, q, n, beat, e, "want", together, len(seen))
		}
		beats[min(len(seen), 3)]++
		n, beat, e := Moire(q, p)
		if n != together || beat != len(seen) || e != api.OK {
			t.Fatal(q, p, n, beat, e)
		}
	}
	if beats[1] < 50 || beats[2] < 20 || beats[3] < 50 {
		t.Error(beats)
	}
}
