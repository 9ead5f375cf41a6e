package plate_test

import (
	"math/rand"
	"slices"
	"testing"

	"barleycorn/api"
	"barleycorn/plate"
)

// gives reports an error unless an act is done to a store, which stays as it was, and makes another one of it.
func gives(t *testing.T, what any, s api.Store, a api.Act, change func(s *api.Store)) {
	t.Helper()
	before, want := copyOf(s), changed(s, change)
	after, e := plate.Do(s, a)
	if e != api.OK || !areSame(after, want) {
		t.Error(what, a, "gives", after, e, "want", want)
	}
	if !areSame(s, before) {
		t.Error(what, a, "changes the store")
	}
}

// refuses reports an error unless an act cannot be done to a store, which stays as it was.
func refuses(t *testing.T, what any, s api.Store, a api.Act, want api.Errno) {
	t.Helper()
	before := copyOf(s)
	after, e := plate.Do(s, a)
	if e != want || !areSame(after, api.Store{}) {
		t.Error(what, a, "gives", after, e, "want", want)
	}
	if !areSame(s, before) {
		t.Error(what, a, "changes the store")
	}
}

// absent are numbers of items that are not there, of a store with n items.
func absent(n int) []int {
	return []int{leastInt, leastInt + 1, -1000000, -2, -1, n, n + 1, 30, 31, 1000000, greatestInt - 1, greatestInt}
}

// TestAbsent: P8.1, acts with the number of an item that is negative, beyond the items, or gone, whatever else is wrong.
func TestAbsent(t *testing.T) {
	s := workshop()
	for _, i := range append(absent(len(s.Items)), 7, 8, 9) {
		for _, a := range []api.Act{transfer(i), move(i, 0), move(i, 1), move(i, 4), move(i, 10), move(i, -1), impress(i, 1), impress(i, 0), impress(i, 401), impress(i, 7), destroy(i)} {
			refuses(t, i, s, a, api.ErrNone)
			refuses(t, "no items", api.Store{Life: 5}, a, api.ErrNone)
		}
	}
	full := storeOf(5, append(items(die(0, 0)), repeat(29, gone(die(0, 0)))...))
	refuses(t, "full", full, transfer(1), api.ErrNone)
	refuses(t, "full", full, transfer(30), api.ErrNone)
}

// TestActKinds: P8.1, ErrArg for any Kind that is none, but after ErrStore; each one does what it should.
func TestActKinds(t *testing.T) {
	for kind := range 256 {
		if kind >= 1 && kind <= 7 {
			continue
		}
		for _, s := range []api.Store{workshop(), {Life: 1}, storeOf(5, repeat(30, die(0, 0)))} {
			refuses(t, kind, s, api.Act{Kind: uint8(kind)}, api.ErrArg)
			refuses(t, kind, s, api.Act{Kind: uint8(kind), Item: -1, To: -1, N: -1}, api.ErrArg)
			refuses(t, kind, s, api.Act{Kind: uint8(kind), Item: 0, To: 1, N: 1}, api.ErrArg)
		}
	}
}

// TestEngrave: P8.1, a die more, with no item, with MaxItems and with one less; no field matters.
func TestEngrave(t *testing.T) {
	for _, n := range []int{0, 1, 28, 29} {
		s := storeOf(5, repeat(n, die(1, 0)))
		for _, a := range []api.Act{engrave(), {Kind: 1}, {Kind: 1, Item: greatestInt, To: leastInt, N: greatestInt}} {
			gives(t, n, s, a, func(s *api.Store) { s.Items = append(s.Items, die(0, 0)) })
			refuses(t, "full", storeOf(5, repeat(30, die(1, 0))), a, api.ErrFull)
			refuses(t, "full of what is gone", storeOf(5, repeat(30, gone(die(0, 0)))), a, api.ErrFull)
		}
	}
	gives(t, "workshop", workshop(), engrave(), func(s *api.Store) { s.Items = append(s.Items, die(0, 0)) })
}

// TestTransfer: P8.1, of a die, a roll and a plate, at PlaceTransfer and elsewhere.
func TestTransfer(t *testing.T) {
	s := workshop()
	gives(t, "die", s, transfer(1), func(s *api.Store) {
		s.Items[1].Uses = 3
		s.Items = append(s.Items, roll(1, 1, 0))
	})
	gives(t, "roll", s, transfer(2), func(s *api.Store) {
		s.Items[2].Uses = 3
		s.Items = append(s.Items, plateFrom(2, 1, 0))
	})
	refuses(t, "die in the vault", s, transfer(0), api.ErrArg)
	refuses(t, "roll in the vault", s, transfer(3), api.ErrArg)
	refuses(t, "plate at a press", s, transfer(4), api.ErrArg)
	refuses(t, "plate at PlaceTransfer", s, transfer(6), api.ErrArg)
	s.Items[5].Place = 0
	refuses(t, "plate in the vault", s, transfer(5), api.ErrArg)
	s.Items[0] = gone(die(0, 1))
	gives(t, "roll of a die that is gone", s, transfer(2), func(s *api.Store) {
		s.Items[2].Uses = 3
		s.Items = append(s.Items, plateFrom(2, 1, 0))
	})
}

// TestTransferLimits: P8.1, with MaxUses and one less, with MaxItems and one less; the errors in their order.
func TestTransferLimits(t *testing.T) {
	worn := func(place, uses, others int) api.Store {
		return storeOf(5, slices.Concat(items(die(place, uses)), repeat(uses, roll(0, 1, 0)), repeat(others, die(0, 0))))
	}
	gives(t, "one less", worn(1, 9, 19), transfer(0), func(s *api.Store) {
		s.Items[0].Uses = 10
		s.Items = append(s.Items, roll(0, 1, 0))
	})
	refuses(t, "MaxUses", worn(1, 10, 0), transfer(0), api.ErrWorn)
	refuses(t, "both", worn(1, 10, 19), transfer(0), api.ErrWorn)
	refuses(t, "MaxItems", worn(1, 9, 20), transfer(0), api.ErrFull)
	refuses(t, "MaxItems", worn(1, 10, 19), transfer(1), api.ErrFull)
	refuses(t, "all three", worn(0, 10, 19), transfer(0), api.ErrArg)
	refuses(t, "not a number", worn(0, 10, 19), transfer(30), api.ErrNone)
	wornRoll := func(place, uses, others int) api.Store {
		return storeOf(5, slices.Concat(items(die(0, 1), roll(0, place, uses)), repeat(uses, gone(plateFrom(1, 0, 0))), repeat(others, die(0, 0))))
	}
	gives(t, "one less", wornRoll(1, 9, 18), transfer(1), func(s *api.Store) {
		s.Items[1].Uses = 10
		s.Items = append(s.Items, plateFrom(1, 1, 0))
	})
	refuses(t, "MaxUses", wornRoll(1, 10, 3), transfer(1), api.ErrWorn)
	refuses(t, "both", wornRoll(1, 10, 18), transfer(1), api.ErrWorn)
	refuses(t, "MaxItems", wornRoll(1, 9, 19), transfer(1), api.ErrFull)
	refuses(t, "all three", wornRoll(0, 10, 18), transfer(1), api.ErrArg)
	refuses(t, "MaxItems, gone", wornRoll(1, 9, 19), transfer(5), api.ErrNone)
	refuses(t, "MaxItems, in the vault", wornRoll(1, 9, 19), transfer(0), api.ErrArg)
}

// TestMove: P8.1, to each kind of place, to where the item is already, and to presses where another plate is.
func TestMove(t *testing.T) {
	s := workshop()
	for _, i := range []int{0, 1, 2, 3, 4, 5, 6} {
		for to := range 10 {
			switch {
			case to > 1 && i < 4:
				refuses(t, "no plate", s, move(i, to), api.ErrArg)
			case to == 4 && i != 4, to == 9 && i != 5:
				refuses(t, "taken", s, move(i, to), api.ErrTaken)
			default:
				gives(t, "free", s, move(i, to), func(s *api.Store) { s.Items[i].Place = to })
			}
		}
		for _, to := range []int{leastInt, -1000000, -2, -1, 10, 11, 30, 1000000, greatestInt} {
			refuses(t, "no place", s, move(i, to), api.ErrArg)
		}
	}
}

// TestPresses: P8.1, a press is free again when its plate has been moved away, also to another press.
func TestPresses(t *testing.T) {
	for _, to := range []int{0, 1, 2, 9} {
		s := storeOf(5, items(die(0, 1), roll(0, 0, 2), plateFrom(1, 3, 0), plateFrom(1, 0, 0)))
		refuses(t, to, s, move(3, 3), api.ErrTaken)
		book := []api.Act{engrave(), move(0, 1), transfer(0), transfer(1), transfer(1), move(0, 0), move(1, 0), move(3, 0), move(2, 3), move(2, 3), move(2, to), move(3, 3)}
		s.Items[2].Place, s.Items[3].Place = to, 3
		if after, at, e := plate.Play(5, book); e != api.OK || at != 0 || !areSame(after, s) {
			t.Error(to, after, at, e)
		}
		if after, at, e := plate.Play(5, append(book, move(2, 3))); e != api.ErrTaken || at != 12 || !areSame(after, api.Store{}) {
			t.Error(to, after, at, e)
		}
	}
	book := []api.Act{engrave(), move(0, 1), transfer(0), transfer(1), transfer(1), move(2, 2), move(2, 3), move(3, 2), move(2, 0), move(3, 3), destroy(2)}
	want := storeOf(5, items(die(1, 1), roll(0, 1, 2), gone(plateFrom(1, 0, 0)), plateFrom(1, 3, 0)))
	if after, at, e := plate.Play(5, book); e != api.OK || at != 0 || !areSame(after, want) {
		t.Error(after, at, e)
	}
}

// TestPrint: P8.1, of each item, with N at 0, 1, MaxPrints and one more, and far away.
func TestPrint(t *testing.T) {
	s := workshop()
	for _, i := range []int{0, 1, 2, 3, 6} {
		refuses(t, "not at a press", s, impress(i, 1), api.ErrArg)
		refuses(t, "not at a press", s, impress(i, 7), api.ErrArg)
	}
	for _, n := range []int{leastInt, -1000000, -400, -2, -1, 0, 401, 402, 1000000, greatestInt - 1, greatestInt} {
		refuses(t, "N", s, impress(4, n), api.ErrArg)
		refuses(t, "N, and full", printed(1000, 400), impress(2, n), api.ErrArg)
	}
	for n := 1; n <= 2; n++ {
		gives(t, "plate", s, impress(4, n), func(s *api.Store) {
			s.Items[4].Uses += n
			s.Prints = append(s.Prints, prints(4, make([]uint8, n)...)...)
		})
	}
	refuses(t, "worn", s, impress(4, 3), api.ErrWorn)
	refuses(t, "worn", s, impress(4, 400), api.ErrWorn)
	for place := range 10 {
		s := storeOf(5, items(die(0, 1), roll(0, 0, 1), plateFrom(1, place, 0)))
		if place < 2 {
			refuses(t, place, s, impress(2, 1), api.ErrArg)
			continue
		}
		gives(t, place, s, impress(2, 5), func(s *api.Store) { s.Items[2].Uses, s.Prints = 5, prints(2, 0, 0, 0, 0, 0) })
		refuses(t, place, s, impress(2, 6), api.ErrWorn)
	}
}

// printed returns a store with a plate that was printed so often, and one that was not.
func printed(life, n int) api.Store {
	return storeOf(life, items(die(0, 1), roll(0, 0, 2), plateFrom(1, 2, n), plateFrom(1, 3, 0)), prints(2, make([]uint8, n)...))
}

// TestPrintLimits: P8.1, up to just Life and one more, up to just MaxPrints and one more; the errors in their order.
func TestPrintLimits(t *testing.T) {
	for _, x := range []struct {
		life, uses, item, n int
		want                api.Errno
	}{
		{1, 0, 2, 1, api.OK}, {1, 0, 2, 2, api.ErrWorn}, {1, 1, 2, 1, api.ErrWorn}, {7, 4, 2, 3, api.OK}, {7, 4, 2, 4, api.ErrWorn}, {7, 7, 2, 1, api.ErrWorn}, {7, 7, 3, 7, api.OK}, {7, 7, 3, 8, api.ErrWorn},
		{1000, 0, 2, 400, api.OK}, {400, 0, 2, 400, api.OK}, {399, 0, 2, 400, api.ErrWorn}, {399, 0, 2, 399, api.OK}, {399, 0, 2, 401, api.ErrArg},
		{1000, 399, 2, 1, api.OK}, {1000, 399, 2, 2, api.ErrFull}, {1000, 400, 2, 1, api.ErrFull}, {1000, 1, 2, 399, api.OK}, {1000, 1, 2, 400, api.ErrFull}, {1000, 150, 3, 250, api.OK}, {1000, 150, 3, 251, api.ErrFull},
		{400, 399, 2, 1, api.OK}, {400, 399, 2, 2, api.ErrWorn}, {399, 399, 2, 1, api.ErrWorn}, {399, 399, 3, 1, api.OK}, {399, 399, 3, 2, api.ErrFull}, {400, 400, 3, 400, api.ErrFull}, {400, 400, 2, 1, api.ErrWorn}, {401, 400, 2, 1, api.ErrFull}, {401, 400, 2, 2, api.ErrWorn}, {399, 1, 3, 400, api.ErrWorn},
	} {
		s := printed(x.life, x.uses)
		if x.want != api.OK {
			refuses(t, x, s, impress(x.item, x.n), x.want)
			continue
		}
		gives(t, x, s, impress(x.item, x.n), func(s *api.Store) {
			s.Items[x.item].Uses += x.n
			s.Prints = append(s.Prints, prints(x.item, make([]uint8, x.n)...)...)
		})
	}
}

// TestTake: P8.1, ActIssue and ActSpoil: the prints from the first one to the last one and between, of one plate and of several.
func TestTake(t *testing.T) {
	s := printed(9, 3)
	s.Items[3].Uses = 2
	s.Prints = append(s.Prints, prints(3, 0, 0)...)
	for from := range 5 {
		for n := 1; from+n <= 5; n++ {
			for state, a := range map[uint8]api.Act{1: issue(from, n), 2: spoil(from, n)} {
				gives(t, "stock", s, a, func(s *api.Store) {
					for i := from; i < from+n; i++ {
						s.Prints[i].State = state
					}
				})
				for spent := range 5 {
					for was := uint8(1); was <= 2; was++ {
						s := changed(s, func(s *api.Store) { s.Prints[spent].State = was })
						if spent >= from && spent < from+n {
							refuses(t, spent, s, a, api.ErrSpent)
							continue
						}
						if _, e := plate.Do(s, a); e != api.OK {
							t.Error(spent, a, e)
						}
					}
				}
			}
		}
	}
	s.Items[2], s.Items[3] = gone(plateFrom(1, 0, 3)), gone(plateFrom(1, 0, 2))
	gives(t, "of plates that are gone", s, issue(2, 2), func(s *api.Store) { s.Prints[2].State, s.Prints[3].State = 1, 1 })
}

// TestTakeErrors: P8.1, ActIssue and ActSpoil: N at 0, 1, MaxPrints and one more, prints that are not there; the errors in their order.
func TestTakeErrors(t *testing.T) {
	for kind := uint8(5); kind <= 6; kind++ {
		all, none := printed(1000, 400), api.Store{Life: 5}
		take := func(from, n int) api.Act { return api.Act{Kind: kind, Item: from, N: n} }
		gives(t, "all", all, take(0, 400), func(s *api.Store) { s.Prints = prints(2, repeat(400, kind-4)...) })
		gives(t, "the last one", all, take(399, 1), func(s *api.Store) { s.Prints[399].State = kind - 4 })
		for _, from := range []int{leastInt, -1000000, -1, 0, 1, 3, 399, 400, 401, greatestInt} {
			for _, n := range []int{leastInt, -1000000, -400, -1, 0, 401, 402, greatestInt - 1, greatestInt} {
				refuses(t, from, all, take(from, n), api.ErrArg)
				refuses(t, from, workshop(), take(from, n), api.ErrArg)
				refuses(t, from, none, take(from, n), api.ErrArg)
			}
			for _, n := range []int{1, 2, 399, 400} {
				refuses(t, from, none, take(from, n), api.ErrNone)
				if from < 0 || from > 400-n {
					refuses(t, from, all, take(from, n), api.ErrNone)
				}
			}
		}
		for _, from := range []int{leastInt, leastInt + 1, -400, -1, 7, 8, greatestInt - 400, greatestInt - 1, greatestInt} {
			for _, n := range []int{1, 2, 7, 399, 400} {
				refuses(t, from, workshop(), take(from, n), api.ErrNone)
			}
		}
		gives(t, "two", workshop(), take(0, 2), func(s *api.Store) { s.Prints[0].State, s.Prints[1].State = kind-4, kind-4 })
		refuses(t, "issued last", workshop(), take(0, 3), api.ErrSpent)
		refuses(t, "issued first", workshop(), take(2, 1), api.ErrSpent)
		refuses(t, "spoiled", workshop(), take(3, 2), api.ErrSpent)
		refuses(t, "between", workshop(), take(1, 4), api.ErrSpent)
		refuses(t, "the last one", workshop(), take(6, 1), api.ErrSpent)
		refuses(t, "one too few, and spent", workshop(), take(6, 2), api.ErrNone)
		refuses(t, "one too few", workshop(), take(4, 4), api.ErrNone)
		refuses(t, "all but one", workshop(), take(-1, 2), api.ErrNone)
	}
}

// TestDestroy: P8.1, in the vault and elsewhere.
func TestDestroy(t *testing.T) {
	s := workshop()
	for _, i := range []int{0, 3} {
		gives(t, "in the vault", s, destroy(i), func(s *api.Store) { s.Items[i].Gone = true })
	}
	for _, i := range []int{1, 2, 4, 5, 6} {
		refuses(t, "elsewhere", s, destroy(i), api.ErrArg)
	}
	s.Items[4].Place = 0
	gives(t, "plate", s, destroy(4), func(s *api.Store) { s.Items[4].Gone = true })
	s.Items[4].Gone = true
	refuses(t, "again", s, destroy(4), api.ErrNone)
}

// TestAnyAct: P8.1 and P8.6, acts to any stores, against the chapter's table; those that are refused change nothing.
func TestAnyAct(t *testing.T) {
	r := rand.New(rand.NewSource(91))
	counts := map[[2]int]int{}
	for range 30000 {
		s := randomStore(r)
		a := randomAct(r, s)
		switch r.Intn(6) {
		case 0:
			a.Item = anyNumber(r)
		case 1:
			a.To = anyNumber(r)
		case 2:
			a.N = anyNumber(r)
		case 3:
			a.Kind = uint8(r.Intn(9))
		}
		want, e := afterAct(s, a)
		counts[[2]int{int(a.Kind), int(e)}]++
		if e == api.OK {
			gives(t, "random", s, a, func(s *api.Store) { *s = want })
		} else {
			refuses(t, "random", s, a, e)
		}
	}
	for _, x := range [][2]int{{0, 2}, {1, 0}, {1, 9}, {2, 0}, {2, 6}, {2, 2}, {2, 81}, {2, 9}, {3, 0}, {3, 6}, {3, 2}, {3, 82}, {4, 0}, {4, 6}, {4, 2}, {4, 81}, {4, 9}, {5, 0}, {5, 2}, {5, 6}, {5, 83}, {6, 0}, {6, 2}, {6, 6}, {6, 83}, {7, 0}, {7, 6}, {7, 2}, {8, 2}} {
		if counts[x] < 10 {
			t.Error("only", counts[x], "of the kind and the error", x)
		}
	}
}
