package groove

import (
	"slices"

	"barleycorn/api"
)

// Loop returns the first loop with the fewest cuts (P5.4).
func Loop(w api.Work) ([]int, api.Errno) {
	rules, e := Rules(w)
	if e != api.OK {
		return nil, e
	}
	var fewest []int
	// The first loop begins with the least index of any loop that is as short, as a loop may begin with any of its cuts.
	for start := range w.Cuts {
		loop := loopFrom(rules, start)
		if loop != nil && (fewest == nil || len(loop) < len(fewest)) {
			fewest = loop
		}
	}
	if fewest == nil {
		return nil, api.ErrNone
	}
	return fewest, api.OK
}

// CheckLoop returns ErrProof unless something is a loop of a work (P5.4).
func CheckLoop(w api.Work, loop []int) api.Errno {
	b, e := benchOf(w)
	if e != api.OK {
		return e
	}
	if len(loop) < 2 || !areDifferent(loop, len(w.Cuts)) {
		return api.ErrProof
	}
	last := loop[len(loop)-1]
	for _, i := range loop {
		if !b.isBefore(last, i) {
			return api.ErrProof
		}
		last = i
	}
	return api.OK
}

// loopFrom returns the first of the shortest ways along rules, which are in increasing order, from a cut back to it; nil if there is none.
func loopFrom(rules []api.Pair, start int) []int {
	steps := stepsTo(rules, start)
	if steps[start] == 0 {
		return nil
	}
	loop := []int{start}
	for left := steps[start] - 1; left > 0; left-- {
		last := loop[len(loop)-1]
		next := slices.IndexFunc(rules, func(r api.Pair) bool { return r.A == last && steps[r.B] == left })
		loop = append(loop, rules[next].B) // there is such a rule, as one step more is left from the last cut
	}
	return loop
}

// stepsTo returns the fewest rules, at least one, that lead from each cut to a goal; 0 where none do.
func stepsTo(rules []api.Pair, goal int) [api.MaxCuts]int {
	var steps [api.MaxCuts]int
	for n := 1; n <= api.MaxCuts; n++ {
		for _, rule := range rules {
			isStep := n == 1 && rule.B == goal || n > 1 && steps[rule.B] == n-1
			if isStep && steps[rule.A] == 0 {
				steps[rule.A] = n
			}
		}
	}
	return steps
}
