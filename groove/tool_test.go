package groove_test

import (
	"math/rand"
	"testing"

	"barleycorn/api"
	"barleycorn/groove"
)

// A limit is a field of something with its limits.
type limit[T any] struct {
	name        string
	field       func(*T) *int
	least, most int
}

// toolFields are the fields of a tool.
func toolFields() []limit[api.Tool] {
	return []limit[api.Tool]{
		{"Tip", func(t *api.Tool) *int { return &t.Tip }, 0, 100},
		{"Num", func(t *api.Tool) *int { return &t.Num }, 1, 100},
		{"Den", func(t *api.Tool) *int { return &t.Den }, 1, 100},
		{"Bite", func(t *api.Tool) *int { return &t.Bite }, 1, 1000},
		{"Slack", func(t *api.Tool) *int { return &t.Slack }, 0, 1000},
	}
}

// around are numbers at the limits of a field, just beyond them, and far away, with whether they are valid.
func (l limit[T]) around() map[int]bool {
	return map[int]bool{
		l.least: true, l.most: true, l.least + 1: true, l.most - 1: true, l.least - 1: false, l.most + 1: false,
		leastInt: false, greatestInt: false, l.least - 1000000: false, l.most + 1000000: false,
	}
}

// broadTool returns a valid tool that stays valid whatever its Num, or its Den, is within its limits.
func broadTool() api.Tool { return api.Tool{Tip: 2, Num: 1, Den: 100, Bite: 50, Slack: 3} }

// TestToolLimits: P5.1, each field of a tool at its limits and just beyond them, and far away.
func TestToolLimits(t *testing.T) {
	for _, f := range toolFields() {
		for n, isValid := range f.around() {
			tool, want := broadTool(), api.ErrTool
			*f.field(&tool) = n
			if isValid {
				want = api.OK
			}
			_, _, depth := groove.Depth(tool, 1)
			_, half := groove.Half(tool, 1)
			if e := groove.CheckTool(tool); e != want || depth != want || half != want {
				t.Error(f.name, n, e, depth, half, "want", want)
			}
		}
	}
	if e := groove.CheckTool(api.Tool{}); e != api.ErrTool {
		t.Error(e)
	}
	if e := groove.CheckTool(api.Tool{Tip: 100, Num: 100, Den: 100, Bite: 1000, Slack: 1000}); e != api.OK {
		t.Error(e)
	}
	if e := groove.CheckTool(api.Tool{Num: 1, Den: 1, Bite: 1}); e != api.OK {
		t.Error(e)
	}
}

// TestNumAboveDen: P5.1, Num may be Den, and not above it.
func TestNumAboveDen(t *testing.T) {
	for _, x := range []struct {
		num, den int
		want     api.Errno
	}{
		{1, 1, api.OK}, {2, 1, api.ErrTool}, {3, 3, api.OK}, {2, 3, api.OK}, {4, 3, api.ErrTool}, {100, 100, api.OK}, {99, 100, api.OK}, {100, 99, api.ErrTool},
		{101, 101, api.ErrTool}, {100, 101, api.ErrTool}, {0, 0, api.ErrTool}, {-1, -1, api.ErrTool}, {-2, -1, api.ErrTool}, {greatestInt, greatestInt, api.ErrTool},
	} {
		tool := chapterTool()
		tool.Num, tool.Den = x.num, x.den
		if e := groove.CheckTool(tool); e != x.want {
			t.Error(x, e)
		}
	}
}

// TestDepthExamples: P5.1, the chapter's examples, quotients that are rounded down, and depths that would be below 0.
func TestDepthExamples(t *testing.T) {
	for _, x := range []struct {
		bite, slack, press, low, high int
	}{
		{50, 3, 21, 7, 13}, {50, 3, 4, 0, 5}, {50, 3, 0, 0, 3}, {50, 3, 1, 0, 3}, {50, 3, 2, 0, 4}, {50, 3, 5, 0, 5}, {50, 3, 6, 0, 6}, {50, 3, 7, 0, 6}, {50, 3, 8, 1, 7}, {50, 3, 1000, 497, 503},
		{1, 0, 0, 0, 0}, {1, 0, 99, 0, 0}, {1, 0, 100, 1, 1}, {1, 0, 199, 1, 1}, {1, 0, 1000, 10, 10}, {1, 1000, 1000, 0, 1010},
		{1000, 1000, 1000, 9000, 11000}, {1000, 1000, 0, 0, 1000}, {1000, 1000, 100, 0, 2000}, {1000, 1000, 101, 10, 2010}, {1000, 0, 7, 70, 70}, {30, 2, 33, 7, 11},
	} {
		tool := chapterTool()
		tool.Bite, tool.Slack = x.bite, x.slack
		if low, high, e := groove.Depth(tool, x.press); low != x.low || high != x.high || e != api.OK {
			t.Error(x, low, high, e)
		}
	}
}

// TestHalfExamples: P5.1, the chapter's examples, and quotients that are whole, and that are rounded up.
func TestHalfExamples(t *testing.T) {
	for _, x := range []struct {
		tip, num, den, depth, want int
	}{
		{2, 1, 2, 13, 9}, {2, 1, 2, 0, 2}, {2, 1, 2, 12, 8}, {2, 1, 2, 1, 3}, {2, 1, 2, 2, 3}, {2, 1, 2, 3, 4}, {0, 1, 1, 0, 0}, {0, 1, 1, 20000, 20000},
		{100, 100, 100, 20000, 20100}, {0, 1, 100, 1, 1}, {0, 1, 100, 100, 1}, {0, 1, 100, 101, 2}, {0, 1, 100, 20000, 200}, {5, 2, 3, 4, 8}, {5, 2, 3, 5, 9}, {5, 2, 3, 6, 9}, {5, 99, 100, 20000, 19805},
	} {
		tool := chapterTool()
		tool.Tip, tool.Num, tool.Den = x.tip, x.num, x.den
		if half, e := groove.Half(tool, x.depth); half != x.want || e != api.OK {
			t.Error(x, half, e)
		}
	}
}

// TestLimitsOfTools: P5.1, press and depth at both of their limits and just beyond them; the error of the tool comes first.
func TestLimitsOfTools(t *testing.T) {
	bad := chapterTool()
	bad.Bite = 0
	for press, want := range map[int]api.Errno{0: api.OK, 1: api.OK, 1000: api.OK, -1: api.ErrArg, 1001: api.ErrArg, leastInt: api.ErrArg, greatestInt: api.ErrArg} {
		low, high, e := groove.Depth(chapterTool(), press)
		if e != want || e != api.OK && (low != 0 || high != 0) {
			t.Error(press, low, high, e)
		}
		low, high, e = groove.Depth(bad, press)
		if e != api.ErrTool || low != 0 || high != 0 {
			t.Error(press, low, high, e)
		}
	}
	for depth, want := range map[int]api.Errno{0: api.OK, 1: api.OK, 20000: api.OK, -1: api.ErrArg, 20001: api.ErrArg, leastInt: api.ErrArg, greatestInt: api.ErrArg} {
		if half, e := groove.Half(chapterTool(), depth); e != want || e != api.OK && half != 0 {
			t.Error(depth, half, e)
		}
		if half, e := groove.Half(bad, depth); e != api.ErrTool || half != 0 {
			t.Error(depth, half, e)
		}
	}
}

// anyTool returns any valid tool.
func anyTool(r *rand.Rand) api.Tool {
	t := api.Tool{Tip: r.Intn(101), Den: 1 + r.Intn(100), Bite: 1 + r.Intn(1000), Slack: r.Intn(1001)}
	t.Num = 1 + r.Intn(t.Den)
	return t
}

// TestRandomTools: P5.1 and P5.6, for random tools: depths and halves are as the chapter has them, and those for more are no less.
func TestRandomTools(t *testing.T) {
	r := rand.New(rand.NewSource(61))
	for range 40 {
		tool := anyTool(r)
		lastLow, lastHigh, lastHalf := 0, 0, 0
		for press := range 1001 {
			low, high, e := groove.Depth(tool, press)
			want := highOf(tool, press)
			if e != api.OK || high != want || low != max(want-2*tool.Slack, 0) {
				t.Fatal(tool, press, low, high, e)
			}
			half, e := groove.Half(tool, high)
			if half != halfOf(tool, high) || e != api.OK {
				t.Fatal(tool, high, half, e)
			}
			if low < lastLow || high < lastHigh || half < lastHalf {
				t.Fatal(tool, press, "is less than for", press-1)
			}
			lastLow, lastHigh, lastHalf = low, high, half
		}
	}
}

// TestGreaterIsNoLess: P5.6, at all depths of some tools.
func TestGreaterIsNoLess(t *testing.T) {
	for _, tool := range []api.Tool{chapterTool(), evenTool(), broadTool(), {Tip: 100, Num: 37, Den: 64, Bite: 1000, Slack: 1000}} {
		last := tool.Tip
		for depth := range 20001 {
			half, e := groove.Half(tool, depth)
			if e != api.OK || half < last || half > last+1 {
				t.Fatal(tool, depth, half, e)
			}
			last = half
		}
	}
}
