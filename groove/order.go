package groove

import (
	"iter"
	"slices"

	"barleycorn/api"
)

// Rules returns all pairs of which the first must be made before the second (P5.4).
func Rules(w api.Work) ([]api.Pair, api.Errno) {
	b, e := benchOf(w)
	if e != api.OK {
		return nil, e
	}
	return slices.Collect(b.rules()), api.OK
}

// Order returns the first order of a work (P5.4).
func Order(w api.Work) ([]int, api.Errno) {
	rules, e := Rules(w)
	if e != api.OK {
		return nil, e
	}
	var before [api.MaxCuts]int // how many of the cuts that are left have to come before each of them
	for _, rule := range rules {
		before[rule.B]++
	}
	var order []int
	for range w.Cuts {
		next := slices.Index(before[:len(w.Cuts)], 0)
		if next < 0 {
			return nil, api.ErrLoop
		}
		order = append(order, next)
		before[next] = -1 // so that it is not found again: none of the rules that are left names it second
		for _, rule := range rules {
			if rule.A == next {
				before[rule.B]--
			}
		}
	}
	return order, api.OK
}

// CheckOrder returns ErrProof unless something is an order of a work (P5.4).
func CheckOrder(w api.Work, order []int) api.Errno {
	b, e := benchOf(w)
	if e != api.OK {
		return e
	}
	if len(order) != len(w.Cuts) || !areDifferent(order, len(w.Cuts)) {
		return api.ErrProof
	}
	var places [api.MaxCuts]int
	for place, i := range order {
		places[i] = place
	}
	for rule := range b.rules() {
		if places[rule.A] > places[rule.B] {
			return api.ErrProof
		}
	}
	return api.OK
}

// rules yields all pairs of which the first must be made before the second, in increasing order.
func (b *bench) rules() iter.Seq[api.Pair] {
	return func(yield func(api.Pair) bool) {
		for i := range b.Cuts {
			for j := range b.Cuts {
				if i != j && b.isBefore(i, j) && !yield(api.Pair{A: i, B: j}) {
					return
				}
			}
		}
	}
}

// areDifferent reports whether all numbers of a list are indices of n cuts, none of them twice.
func areDifferent(list []int, n int) bool {
	var known [api.MaxCuts]bool
	for _, i := range list {
		if !areWithin(0, n-1, i) || known[i] {
			return false
		}
		known[i] = true
	}
	return true
}
