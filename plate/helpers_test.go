package plate_test

import (
	"math/rand"
	"slices"
	"testing"

	"barleycorn/api"
)

// The least and the greatest int.
const (
	leastInt    = -1 << 63
	greatestInt = 1<<63 - 1
)

// die returns a die.
func die(place, uses int) api.Item { return api.Item{Kind: 1, From: -1, Place: place, Uses: uses} }

// roll returns a roll.
func roll(from, place, uses int) api.Item {
	return api.Item{Kind: 2, From: from, Place: place, Uses: uses}
}

// plateFrom returns a plate.
func plateFrom(from, place, uses int) api.Item {
	return api.Item{Kind: 3, From: from, Place: place, Uses: uses}
}

// gone returns an item that is gone.
func gone(i api.Item) api.Item {
	i.Gone = true
	return i
}

// items returns a list of items.
func items(l ...api.Item) []api.Item { return l }

// prints returns prints of a plate with these states.
func prints(plate int, states ...uint8) []api.Print {
	var l []api.Print
	for _, state := range states {
		l = append(l, api.Print{Plate: plate, State: state})
	}
	return l
}

// storeOf returns a store.
func storeOf(life int, items []api.Item, prints ...[]api.Print) api.Store {
	return api.Store{Life: life, Items: items, Prints: slices.Concat(prints...)}
}

// The acts, each with something in the fields that do not matter.
func engrave() api.Act            { return api.Act{Kind: 1, Item: -77, To: 77, N: -7} }
func transfer(item int) api.Act   { return api.Act{Kind: 2, Item: item, To: 77, N: -7} }
func move(item, to int) api.Act   { return api.Act{Kind: 3, Item: item, To: to, N: -7} }
func impress(item, n int) api.Act { return api.Act{Kind: 4, Item: item, To: 77, N: n} }
func issue(from, n int) api.Act   { return api.Act{Kind: 5, Item: from, To: 77, N: n} }
func spoil(from, n int) api.Act   { return api.Act{Kind: 6, Item: from, To: 77, N: n} }
func destroy(item int) api.Act    { return api.Act{Kind: 7, Item: item, To: 77, N: -7} }

// repeat returns a list of n times the same value.
func repeat[V any](n int, v V) []V { return slices.Repeat([]V{v}, n) }

// copyOf returns a copy of a store.
func copyOf(s api.Store) api.Store {
	s.Items, s.Prints = slices.Clone(s.Items), slices.Clone(s.Prints)
	return s
}

// changed returns a changed copy of a store.
func changed(s api.Store, change func(s *api.Store)) api.Store {
	s = copyOf(s)
	change(&s)
	return s
}

// areSame reports whether two stores are the same.
func areSame(a, b api.Store) bool {
	return a.Life == b.Life && slices.Equal(a.Items, b.Items) && slices.Equal(a.Prints, b.Prints)
}

// around are numbers at two limits, just beyond them, and far away, with whether they are from the one to the other.
func around(least, most int) map[int]bool {
	return map[int]bool{
		least: true, most: true, least + 1: least < most, most - 1: least < most, least - 1: false, most + 1: false,
		leastInt: false, leastInt + most: false, greatestInt: false, greatestInt - most: false, least - 1000000: false, most + 1000000: false,
	}
}

// errorUnless returns OK if something is so, and an error if it is not.
func errorUnless(is bool, e api.Errno) api.Errno {
	if is {
		return api.OK
	}
	return e
}

// is reports an error unless a call has given a list.
func is[V comparable](t *testing.T, what any, l []V, e api.Errno, want ...V) {
	t.Helper()
	if e != api.OK || !slices.Equal(l, want) {
		t.Error(what, "gives", l, e, "want", want)
	}
}

// fails reports an error unless a call has given an error, and no list.
func fails[V any](t *testing.T, what any, l []V, e, want api.Errno) {
	t.Helper()
	if e != want || len(l) > 0 {
		t.Error(what, "gives", l, e, "want", want)
	}
}

// isNumber reports an error unless a call has given a number, or an error and 0.
func isNumber(t *testing.T, what any, n int, e api.Errno, want int, wantE api.Errno) {
	t.Helper()
	if n != want || e != wantE {
		t.Error(what, "gives", n, e, "want", want, wantE)
	}
}

// holds reports whether a number is one from 0 to n - 1.
func holds(n, number int) bool { return number >= 0 && number < n }

// isValid reports whether a store is valid, word by word as the chapter has it.
func isValid(s api.Store) bool {
	if s.Life < 1 || s.Life > 1000 || len(s.Items) > 30 || len(s.Prints) > 400 {
		return false
	}
	for n, i := range s.Items {
		isMade := i.Kind == 1 && i.From == -1
		for from, other := range s.Items[:n] {
			isMade = isMade || i.From == from && (i.Kind == 2 && other.Kind == 1 || i.Kind == 3 && other.Kind == 2)
		}
		uses, most := 0, 10
		for k, other := range s.Items {
			if k != n && i.Place >= 2 && other.Place == i.Place {
				return false
			}
			if other.From == n {
				uses++
			}
		}
		if i.Kind == 3 {
			uses, most = 0, s.Life
			for _, p := range s.Prints {
				if p.Plate == n {
					uses++
				}
			}
		}
		isPlaced := i.Place == 0 || !i.Gone && (i.Place == 1 || i.Place > 1 && i.Place < 10 && i.Kind == 3)
		if !isMade || !isPlaced || i.Uses != uses || uses > most {
			return false
		}
	}
	return !slices.ContainsFunc(s.Prints, func(p api.Print) bool {
		return !holds(len(s.Items), p.Plate) || s.Items[p.Plate].Kind != 3 || p.State > 2
	})
}

// A fault is an error, and whether it applies.
type fault struct {
	is bool
	e  api.Errno
}

// faultsOf returns the faults of an act to a valid store, in order, as the chapter's table has them.
func faultsOf(s api.Store, a api.Act) []fault {
	isThere := holds(len(s.Items), a.Item) && !s.Items[a.Item].Gone
	none := fault{!isThere, 6}
	var i api.Item
	if isThere {
		i = s.Items[a.Item]
	}
	isTaken, areThere, areStock := false, a.N > 0 && a.N <= 400, true
	for n, other := range s.Items {
		isTaken = isTaken || n != a.Item && a.To >= 2 && other.Place == a.To
	}
	for k := 0; areThere && k < a.N; k++ {
		areThere = holds(len(s.Prints), a.Item) && a.Item+k < len(s.Prints)
		areStock = areStock && areThere && s.Prints[a.Item+k].State == 0
	}
	few := a.N >= 1 && a.N <= 400
	switch a.Kind {
	case 1:
		return []fault{{len(s.Items) >= 30, 9}}
	case 2:
		return []fault{none, {i.Kind == 3 || i.Place != 1, 2}, {i.Uses >= 10, 81}, {len(s.Items) >= 30, 9}}
	case 3:
		return []fault{none, {a.To < 0 || a.To > 9 || a.To > 1 && i.Kind != 3, 2}, {isTaken, 82}}
	case 4:
		return []fault{none, {i.Place < 2 || i.Kind != 3 || !few, 2}, {i.Uses+a.N > s.Life, 81}, {len(s.Prints)+a.N > 400, 9}}
	case 5, 6:
		return []fault{{!few, 2}, {!areThere, 6}, {!areStock, 83}}
	case 7:
		return []fault{none, {i.Place != 0, 2}}
	}
	return []fault{{true, 2}}
}

// afterAct returns a valid store after an act, as the chapter's table has it.
func afterAct(s api.Store, a api.Act) (api.Store, api.Errno) {
	for _, f := range faultsOf(s, a) {
		if f.is {
			return api.Store{}, f.e
		}
	}
	return changed(s, func(s *api.Store) {
		switch a.Kind {
		case 1:
			s.Items = append(s.Items, die(0, 0))
		case 2:
			s.Items[a.Item].Uses++
			s.Items = append(s.Items, api.Item{Kind: s.Items[a.Item].Kind + 1, From: a.Item, Place: 1})
		case 3:
			s.Items[a.Item].Place = a.To
		case 4:
			s.Items[a.Item].Uses += a.N
			s.Prints = append(s.Prints, prints(a.Item, make([]uint8, a.N)...)...)
		case 5, 6:
			for k := range a.N {
				s.Prints[a.Item+k].State = a.Kind - 4
			}
		case 7:
			s.Items[a.Item].Gone = true
		}
	}), api.OK
}

// among returns the numbers of items for which something is so.
func among(l []api.Item, is func(i api.Item) bool) []int {
	var numbers []int
	for n, i := range l {
		if is(i) {
			numbers = append(numbers, n)
		}
	}
	return numbers
}

// oneOf returns one of some numbers, the first one more often than others.
func oneOf(r *rand.Rand, numbers []int) int {
	return numbers[max(0, r.Intn(2*len(numbers))-len(numbers))]
}

// randomItems returns n items, with the uses that there are of dies and rolls; some are gone, some plates are at presses.
func randomItems(r *rand.Rand, n int) []api.Item {
	var l []api.Item
	presses := r.Perm(8)
	for len(l) < n {
		i, kind := die(r.Intn(2), 0), uint8(1+r.Intn(3))
		from := among(l, func(other api.Item) bool { return other.Kind == kind-1 && other.Uses < 10 })
		if kind > 1 && len(from) > 0 {
			i.Kind, i.From = kind, oneOf(r, from)
			l[i.From].Uses++
		}
		if i.Kind == 3 && len(presses) > 0 && r.Intn(2) == 0 {
			i.Place, presses = presses[0]+2, presses[1:]
		}
		i.Gone = i.Place == 0 && r.Intn(4) == 0
		l = append(l, i)
	}
	return l
}

// randomStore returns a valid store.
func randomStore(r *rand.Rand) api.Store {
	s := api.Store{Life: 1 + r.Intn([]int{3, 30, 1000, 1000}[r.Intn(4)])}
	s.Items = randomItems(r, r.Intn([]int{3, 12, 31, 31}[r.Intn(4)]))
	for range r.Intn([]int{3, 30, 401, 401}[r.Intn(4)]) {
		plates := among(s.Items, func(i api.Item) bool { return i.Kind == 3 && i.Uses < s.Life })
		if len(plates) > 0 {
			i := oneOf(r, plates)
			s.Items[i].Uses++
			s.Prints = append(s.Prints, api.Print{Plate: i, State: uint8(r.Intn(8)) % 5 % 3})
		}
	}
	return s
}

// randomAct returns an act that can be done to a store more often than not.
func randomAct(r *rand.Rand, s api.Store) api.Act {
	kind := uint8(1 + r.Intn(7))
	if kind == 1 && r.Intn(3) > 0 || kind == 7 && r.Intn(4) > 0 {
		kind = 2
	}
	able := among(s.Items, func(i api.Item) bool {
		return !i.Gone && (kind == 2 && i.Place == 1 && i.Kind < 3 || kind == 3 || kind == 4 && i.Place > 1 || kind == 7 && i.Place == 0)
	})
	a := api.Act{Kind: kind, Item: r.Intn(len(s.Items) + 1), To: 1, N: 1 + r.Intn([]int{2, 9, 30, 200}[r.Intn(4)])}
	if kind == 5 || kind == 6 {
		a.Item = r.Intn(len(s.Prints) + 1)
	} else if len(able) > 0 && r.Intn(8) > 0 {
		a.Item = oneOf(r, able)
	}
	if r.Intn(3) > 0 {
		a.To = r.Intn(10)
	}
	return a
}

// randomBook returns up to n acts that can all be done to the empty store.
func randomBook(r *rand.Rand, life, n int) []api.Act {
	var book []api.Act
	s := api.Store{Life: life}
	for range 3 * n {
		a := randomAct(r, s)
		if after, e := afterAct(s, a); e == api.OK && len(book) < n {
			s, book = after, append(book, a)
		}
	}
	return book
}
