package plate

import (
	"iter"
	"slices"

	"barleycorn/api"
)

// Counts returns how many prints are in stock, issued and spoiled (P8.3).
func Counts(s api.Store) (stock, issued, spoiled int, e api.Errno) {
	if e := Check(s); e != api.OK {
		return 0, 0, 0, e
	}
	var counts [api.PrintSpoiled + 1]int
	for _, p := range s.Prints {
		counts[p.State]++
	}
	return counts[api.PrintStock], counts[api.PrintIssued], counts[api.PrintSpoiled], api.OK
}

// Line returns the line of an item (P8.3).
func Line(s api.Store, item int) ([]int, api.Errno) {
	if e := checkItem(s, item); e != api.OK {
		return nil, e
	}
	line := slices.Collect(lineBack(s.Items, item))
	slices.Reverse(line)
	return line, api.OK
}

// Right reports whether an item reads right (P8.3).
func Right(s api.Store, item int) (bool, api.Errno) {
	if e := checkItem(s, item); e != api.OK {
		return false, e
	}
	isRight := false
	for range lineBack(s.Items, item) {
		isRight = !isRight
	}
	return isRight, api.OK
}

// checkItem returns the errors that Line and Right have in common.
func checkItem(s api.Store, item int) api.Errno {
	if e := Check(s); e != api.OK {
		return e
	}
	if !hasItem(s, item) {
		return api.ErrNone
	}
	return api.OK
}

// lineBack yields the line of an item, from the item itself back to the die.
func lineBack(items []api.Item, item int) iter.Seq[int] {
	return func(yield func(int) bool) {
		for i := item; i >= 0 && yield(i); {
			i = items[i].From
		}
	}
}
