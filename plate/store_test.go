package plate_test

import (
	"math/rand"
	"slices"
	"testing"

	"barleycorn/api"
	"barleycorn/plate"
)

// workshop is a store with items of all kinds: two dies, two rolls, three plates of which two are at presses, and another die, roll and plate that are gone, with prints of all states.
func workshop() api.Store {
	return storeOf(6, items(
		die(0, 1), die(1, 2), roll(0, 1, 2), roll(1, 0, 1), plateFrom(2, 4, 4), plateFrom(3, 9, 1), plateFrom(2, 1, 0),
		gone(die(0, 0)), gone(roll(1, 0, 1)), gone(plateFrom(8, 0, 2)),
	), prints(4, 0, 0, 1, 2), prints(9, 0), prints(5, 1), prints(9, 2))
}

// hasCheck reports an error unless a store is valid, or not, as it should be.
func hasCheck(t *testing.T, what any, s api.Store, want bool) {
	t.Helper()
	if e := plate.Check(s); e != errorUnless(want, api.ErrStore) {
		t.Error(what, "gives", e, "want", want, s)
	}
}

// storeErrors are the errors of all functions with a store, and whether all else that they return are zero values.
func storeErrors(s api.Store, a api.Act, item int) (errors map[string]api.Errno, areZero bool) {
	errors = map[string]api.Errno{"Check": plate.Check(s)}
	after, e := plate.Do(s, a)
	stock, issued, spoiled, f := plate.Counts(s)
	line, g := plate.Line(s, item)
	right, h := plate.Right(s, item)
	errors["Do"], errors["Counts"], errors["Line"], errors["Right"] = e, f, g, h
	return errors, areSame(after, api.Store{}) && stock == 0 && issued == 0 && spoiled == 0 && len(line) == 0 && !right
}

// TestStores: P8.1, stores that are valid: without items, without prints, with all that there may be.
func TestStores(t *testing.T) {
	hasCheck(t, "workshop", workshop(), true)
	hasCheck(t, "empty", api.Store{Life: 1}, true)
	hasCheck(t, "no prints", storeOf(1, items(die(0, 0))), true)
	hasCheck(t, "empty lists", api.Store{Life: 1, Items: []api.Item{}, Prints: []api.Print{}}, true)
	hasCheck(t, "zero", api.Store{}, false)
	full := storeOf(1000, slices.Concat(items(die(0, 1), roll(0, 0, 1), plateFrom(1, 0, 400)), repeat(27, die(1, 0))), prints(2, make([]uint8, 400)...))
	hasCheck(t, "full", full, true)
}

// TestErrStoreFirst: P8.1 and R1, ErrStore comes before all other errors in every function with a store, and also where all else is right.
func TestErrStoreFirst(t *testing.T) {
	for i, s := range []api.Store{
		{}, changed(workshop(), func(s *api.Store) { s.Life = 3 }), changed(workshop(), func(s *api.Store) { s.Items[0].Uses = 0 }),
		changed(workshop(), func(s *api.Store) { s.Prints[0].State = 3 }), changed(workshop(), func(s *api.Store) { s.Items[4].Place = 9 }),
	} {
		for _, a := range []api.Act{engrave(), move(0, 1), move(0, 77), transfer(-1), impress(5, 0), issue(2, 1), destroy(4), {}, {Kind: 8}, {Kind: 255}} {
			for _, item := range []int{0, -1, 99} {
				errors, areZero := storeErrors(s, a, item)
				for name, e := range errors {
					if e != api.ErrStore || !areZero {
						t.Error(i, name, a, item, e, areZero)
					}
				}
			}
		}
	}
	errors, _ := storeErrors(workshop(), engrave(), 0)
	for name, e := range errors {
		if e != api.OK {
			t.Error(name, e)
		}
	}
}

// TestLife: P8.1, Life at 1, at MaxLife, just beyond, and far away.
func TestLife(t *testing.T) {
	for life, isRight := range around(1, 1000) {
		hasCheck(t, life, storeOf(life, items(die(0, 0))), isRight)
		hasCheck(t, life, api.Store{Life: life}, isRight)
	}
}

// TestHowMany: P8.1, no item, MaxItems and one more, no print, MaxPrints and one more, and many more.
func TestHowMany(t *testing.T) {
	for n, isRight := range map[int]bool{0: true, 1: true, 29: true, 30: true, 31: false, 60: false, 5000: false} {
		hasCheck(t, n, storeOf(9, repeat(n, die(0, 0))), isRight)
	}
	for n, isRight := range map[int]bool{0: true, 1: true, 399: true, 400: true, 401: false, 800: false} {
		hasCheck(t, n, storeOf(1000, items(die(0, 1), roll(0, 0, 1), plateFrom(1, 3, n)), prints(2, make([]uint8, n)...)), isRight)
	}
	for n, isRight := range map[int]bool{200: true, 201: false} {
		s := storeOf(1000, items(die(0, 1), roll(0, 0, 2), plateFrom(1, 3, 200), plateFrom(1, 4, n)), prints(2, make([]uint8, 200)...), prints(3, make([]uint8, n)...))
		hasCheck(t, n, s, isRight)
	}
	hasCheck(t, "only prints", storeOf(9, nil, prints(0, make([]uint8, 5000)...)), false)
}

// TestKinds: P8.1, each Kind of an item, one beyond either end, and the greatest number.
func TestKinds(t *testing.T) {
	before := items(die(0, 1), roll(0, 0, 0))
	for kind := range 256 {
		is := map[int]int{1: -1, 2: 0, 3: 1}
		for from := -2; from < 4; from++ {
			l := append(slices.Clone(before), api.Item{Kind: uint8(kind), From: from})
			if holds(2, from) {
				l[from].Uses++
			}
			want, isKind := is[kind]
			hasCheck(t, []int{kind, from}, storeOf(5, l), isKind && want == from)
		}
	}
}

// TestFrom: P8.1, each From that an item may not have: uses are as many as they would have to be.
func TestFrom(t *testing.T) {
	// The items are a die, a roll, a plate, the one that is tried, another die, roll and plate.
	for i, right := range map[uint8][]int{1: {-1}, 2: {0}, 3: {1}} {
		for _, from := range []int{leastInt, -1000, -2, -1, 0, 1, 2, 3, 4, 5, 6, 7, 8, 30, 31, 1000000, greatestInt} {
			l := items(die(0, 1), roll(0, 0, 1), plateFrom(1, 0, 0), api.Item{Kind: i, From: from}, die(0, 1), roll(4, 0, 1), plateFrom(5, 0, 0))
			if holds(len(l), from) {
				l[from].Uses++
			}
			hasCheck(t, []any{i, from}, storeOf(5, l), slices.Contains(right, from))
		}
	}
	hasCheck(t, "roll first", storeOf(5, items(roll(1, 0, 0), die(0, 1))), false)
	hasCheck(t, "plate first", storeOf(5, items(die(0, 1), plateFrom(2, 0, 0), roll(0, 0, 1))), false)
	hasCheck(t, "plate from a die", storeOf(5, items(die(0, 1), plateFrom(0, 0, 0))), false)
	hasCheck(t, "roll from a roll", storeOf(5, items(die(0, 1), roll(0, 0, 1), roll(1, 0, 0))), false)
	hasCheck(t, "roll from what is gone", storeOf(5, items(gone(die(0, 1)), roll(0, 0, 0))), true)
	hasCheck(t, "roll from nothing", storeOf(5, items(roll(-1, 0, 0))), false)
	hasCheck(t, "roll from itself", storeOf(5, items(roll(0, 0, 1))), false)
}

// TestPlaces: P8.1, each place of each kind of item, also of one that is gone; those that share a place.
func TestPlaces(t *testing.T) {
	for number := range 3 {
		for _, isGone := range []bool{false, true} {
			for place := range around(0, 9) {
				for p := place - 1; p != place+5; p++ {
					s := storeOf(5, items(die(0, 1), roll(0, 0, 1), plateFrom(1, 0, 0)))
					s.Items[number].Place, s.Items[number].Gone = p, isGone
					want := p == 0 || !isGone && (p == 1 || number == 2 && p > 1 && p <= 9)
					hasCheck(t, []any{number, p, isGone}, s, want)
				}
			}
		}
	}
	for p := range 10 {
		for q := range 10 {
			s := storeOf(5, items(die(p%2, 2), roll(0, q%2, 1), plateFrom(1, p, 0), die(0, 0), roll(0, q%2, 1), plateFrom(4, q, 0)))
			hasCheck(t, []int{p, q}, s, p != q || p < 2)
		}
	}
	all := storeOf(5, slices.Concat(items(die(1, 1), roll(0, 1, 8)), repeat(8, plateFrom(1, 0, 0))))
	for i := range 8 {
		all.Items[2+i].Place = 2 + i
	}
	hasCheck(t, "all presses", all, true)
	for i := 2; i < 9; i++ {
		hasCheck(t, "twice", changed(all, func(s *api.Store) { s.Items[i].Place++ }), false)
	}
}

// TestUses: P8.1, uses that are one too few or too many, of each item; dies and rolls with MaxUses and one more, plates with Life and one more.
func TestUses(t *testing.T) {
	for i := range workshop().Items {
		for _, by := range []int{-1, 1, -5, 1000000, leastInt, greatestInt} {
			hasCheck(t, []int{i, by}, changed(workshop(), func(s *api.Store) { s.Items[i].Uses += by }), false)
		}
	}
	for n, isRight := range map[int]bool{0: true, 1: true, 9: true, 10: true, 11: false, 20: false} {
		hasCheck(t, n, storeOf(1, append(items(die(0, n)), repeat(n, roll(0, 0, 0))...)), isRight)
		hasCheck(t, n, storeOf(1000, append(items(die(0, n)), repeat(n, gone(roll(0, 0, 0)))...)), isRight)
		hasCheck(t, n, storeOf(1, append(items(die(0, 1), roll(0, 0, n)), repeat(n, plateFrom(1, 0, 0))...)), isRight)
		hasCheck(t, n, storeOf(1000, append(items(gone(die(0, 1)), gone(roll(0, 0, n))), repeat(n, gone(plateFrom(1, 0, 0)))...)), isRight)
	}
	for _, life := range []int{1, 5, 10, 11, 399} {
		for n, isRight := range map[int]bool{0: true, 1: true, life - 1: true, life: true, life + 1: false} {
			s := storeOf(life, items(die(0, 1), roll(0, 0, 1), plateFrom(1, 0, n)), prints(2, make([]uint8, n)...))
			hasCheck(t, []int{life, n}, s, isRight)
			s.Items[2].Gone = true
			hasCheck(t, []int{life, n}, s, isRight)
		}
	}
}

// TestPrints: P8.1, prints of an item that is no plate or that is not there, whatever the uses are, and each State, with one beyond either end.
func TestPrints(t *testing.T) {
	for i := range workshop().Prints {
		for state := range 256 {
			hasCheck(t, state, changed(workshop(), func(s *api.Store) { s.Prints[i].State = uint8(state) }), state < 3)
		}
	}
	plates := map[int]bool{4: true, 5: true, 6: true, 9: true}
	for _, i := range []int{leastInt, -1000, -2, -1, 0, 1, 2, 3, 4, 5, 6, 7, 8, 9, 10, 11, 30, 31, 1000000, greatestInt} {
		s := workshop()
		s.Prints = append(s.Prints, api.Print{Plate: i})
		hasCheck(t, i, s, false)
		if holds(len(s.Items), i) {
			s.Items[i].Uses++
		}
		hasCheck(t, i, s, plates[i])
	}
	hasCheck(t, "no items", storeOf(5, nil, prints(0, 0)), false)
	hasCheck(t, "another plate", changed(workshop(), func(s *api.Store) { s.Prints[0].Plate = 5 }), false)
	hasCheck(t, "one less", changed(workshop(), func(s *api.Store) { s.Prints = s.Prints[1:] }), false)
}

// numbers are some that fields may be changed to.
var numbers = []int{leastInt, -1000000, -2, -1, 0, 1, 2, 3, 4, 5, 6, 7, 8, 9, 10, 11, 12, 29, 30, 31, 399, 400, 401, 1000, 1001, 1000000, greatestInt}

// anyNumber returns one of these numbers.
func anyNumber(r *rand.Rand) int { return numbers[r.Intn(len(numbers))] }

// spoiledStore returns a store of which one thing was changed.
func spoiledStore(r *rand.Rand, s api.Store) api.Store {
	s = copyOf(s)
	if len(s.Items) > 0 {
		i := &s.Items[r.Intn(len(s.Items))]
		switch r.Intn(7) {
		case 0:
			i.Kind = uint8(r.Intn(5))
		case 1:
			i.From = anyNumber(r)
		case 2:
			i.Place = anyNumber(r)
		case 3:
			i.Uses = anyNumber(r)
		case 4:
			i.Gone = !i.Gone
		case 5:
			s.Items = s.Items[:len(s.Items)-1]
		case 6:
			s.Items[0], *i = *i, s.Items[0]
		}
	}
	switch r.Intn(8) {
	case 0:
		s.Life = anyNumber(r)
	case 1:
		s.Prints = append(s.Prints, api.Print{Plate: anyNumber(r), State: uint8(r.Intn(5))})
	}
	return s
}

// TestAnyStore: P8.1, stores that are valid and stores that are not, against the chapter's definition.
func TestAnyStore(t *testing.T) {
	r := rand.New(rand.NewSource(90))
	valid, invalid := 0, 0
	for range 10000 {
		s := randomStore(r)
		if !isValid(s) {
			t.Fatal(s)
		}
		hasCheck(t, "random", s, true)
		s = spoiledStore(r, s)
		hasCheck(t, "spoiled", s, isValid(s))
		if isValid(s) {
			valid++
		} else {
			invalid++
		}
	}
	if valid < 1000 || invalid < 3000 {
		t.Error("only", valid, invalid)
	}
}
