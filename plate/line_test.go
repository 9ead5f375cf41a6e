package plate_test

import (
	"math/rand"
	"slices"
	"testing"

	"barleycorn/api"
	"barleycorn/plate"
)

// counts reports an error unless a store has so many prints of each state.
func counts(t *testing.T, s api.Store, wantStock, wantIssued, wantSpoiled int) {
	t.Helper()
	stock, issued, spoiled, e := plate.Counts(s)
	if stock != wantStock || issued != wantIssued || spoiled != wantSpoiled || e != api.OK {
		t.Error(s, "gives", stock, issued, spoiled, e)
	}
}

// TestCounts: P8.3, of an empty store, with one state and with all three.
func TestCounts(t *testing.T) {
	counts(t, api.Store{Life: 1}, 0, 0, 0)
	counts(t, storeOf(1, items(die(0, 0))), 0, 0, 0)
	counts(t, workshop(), 3, 2, 2)
	counts(t, printed(1000, 400), 400, 0, 0)
	for state := range uint8(3) {
		want := make([]int, 3)
		want[state] = 5
		counts(t, changed(printed(9, 5), func(s *api.Store) { s.Prints = prints(2, repeat(5, state)...) }), want[0], want[1], want[2])
	}
	counts(t, changed(printed(9, 6), func(s *api.Store) { s.Prints = prints(2, 2, 1, 2, 0, 1, 2) }), 1, 2, 3)
	for _, s := range []api.Store{{}, changed(workshop(), func(s *api.Store) { s.Items[4].Uses++ })} {
		if stock, issued, spoiled, e := plate.Counts(s); stock != 0 || issued != 0 || spoiled != 0 || e != api.ErrStore {
			t.Error(stock, issued, spoiled, e)
		}
	}
}

// TestLines: P8.3, Line and Right of dies, rolls and plates, of items that are gone, and of numbers that are not there.
func TestLines(t *testing.T) {
	s := workshop()
	for item, want := range [][]int{{0}, {1}, {0, 2}, {1, 3}, {0, 2, 4}, {1, 3, 5}, {0, 2, 6}, {7}, {1, 8}, {1, 8, 9}} {
		line, e := plate.Line(s, item)
		is(t, item, line, e, want...)
		if right, e := plate.Right(s, item); right != (len(want) != 2) || e != api.OK {
			t.Error(item, right, e)
		}
	}
	for _, s := range []api.Store{s, {Life: 1}} {
		for _, item := range absent(len(s.Items)) {
			line, e := plate.Line(s, item)
			fails(t, item, line, e, api.ErrNone)
			if right, e := plate.Right(s, item); right || e != api.ErrNone {
				t.Error(item, right, e)
			}
		}
	}
	last := storeOf(5, append(repeat(27, die(0, 0)), die(0, 1), roll(27, 0, 1), plateFrom(28, 9, 0)))
	line, e := plate.Line(last, 29)
	is(t, "the last numbers", line, e, 27, 28, 29)
}

// lineOf returns the line of an item, from its die on.
func lineOf(s api.Store, item int) []int {
	if from := s.Items[item].From; from >= 0 {
		return append(lineOf(s, from), item)
	}
	return []int{item}
}

// TestMadeOf: P8.3 and P8.9, what was made of an item has its line, and one more, and reads the other way.
func TestMadeOf(t *testing.T) {
	r := rand.New(rand.NewSource(95))
	for range 500 {
		s := randomStore(r)
		for item, i := range s.Items {
			line, e := plate.Line(s, item)
			is(t, item, line, e, lineOf(s, item)...)
			right, e := plate.Right(s, item)
			if e != api.OK || right != (i.Kind != 2) || right != (len(line)%2 == 1) || len(line) != int(i.Kind) || s.Items[line[0]].Kind != 1 {
				t.Error(s, item, line, right, e)
			}
			if i.From < 0 {
				continue
			}
			before, e := plate.Line(s, i.From)
			is(t, item, line, e, append(slices.Clone(before), item)...)
			if other, e := plate.Right(s, i.From); other == right || e != api.OK {
				t.Error(s, item, right, other, e)
			}
		}
	}
}
