package plate_test

import (
	"math/rand"
	"slices"
	"testing"

	"barleycorn/api"
	"barleycorn/plate"
)

// plays reports an error unless a book makes a store.
func plays(t *testing.T, what any, life int, book []api.Act, want api.Store) {
	t.Helper()
	s, at, e := plate.Play(life, book)
	if e != api.OK || at != 0 || !areSame(s, want) {
		t.Error(what, "gives", s, at, e, "want", want)
	}
}

// stops reports an error unless a book cannot be played from some act on, and nothing can be said of where its items are.
func stops(t *testing.T, what any, life int, book []api.Act, wantAt int, want api.Errno) {
	t.Helper()
	s, at, e := plate.Play(life, book)
	if e != want || at != wantAt || !areSame(s, api.Store{}) {
		t.Error(what, "gives", s, at, e, "want", wantAt, want)
	}
	for _, item := range []int{leastInt, -1, 0, 1, 30, 1000, greatestInt} {
		places, e := plate.Where(life, book, item)
		fails(t, what, places, e, want)
	}
}

// exampleBook is the first book of the chapter's examples.
func exampleBook() []api.Act {
	return []api.Act{engrave(), move(0, 1), transfer(0), transfer(1), move(2, 2), impress(2, 2)}
}

// TestExamples: P8.2 and P8.3, the chapter's examples of books and lines.
func TestExamples(t *testing.T) {
	want := storeOf(3, items(die(1, 1), roll(0, 1, 1), plateFrom(1, 2, 2)), prints(2, 0, 0))
	plays(t, "first", 3, exampleBook(), want)
	stops(t, "worn", 3, append(exampleBook(), impress(2, 2)), 6, api.ErrWorn)
	stops(t, "spent", 3, append(exampleBook(), issue(1, 1), spoil(1, 1)), 7, api.ErrSpent)
	places, e := plate.Where(3, exampleBook(), 2)
	is(t, "Where", places, e, -1, -1, -1, 1, 2, 2)
	line, e := plate.Line(want, 2)
	is(t, "Line", line, e, 0, 1, 2)
	for item, isRight := range []bool{true, false, true} {
		if right, e := plate.Right(want, item); right != isRight || e != api.OK {
			t.Error(item, right, e)
		}
	}
}

// longBook is a book of n acts: a die that goes to and fro.
func longBook(n int) []api.Act {
	book := []api.Act{engrave()}
	for i := range n {
		book = append(book, move(0, 1-i%2))
	}
	return book[:n]
}

// TestBookLengths: P8.2, books with no act, with MaxBook acts and one more, and many more; ErrMany comes before ErrArg, and both before an act's errors.
func TestBookLengths(t *testing.T) {
	plays(t, "no act", 9, nil, api.Store{Life: 9})
	plays(t, "empty", 9, []api.Act{}, api.Store{Life: 9})
	plays(t, "one act", 9, longBook(1), storeOf(9, items(die(0, 0))))
	plays(t, "one less", 9, longBook(199), storeOf(9, items(die(0, 0))))
	plays(t, "MaxBook", 9, longBook(200), storeOf(9, items(die(1, 0))))
	stops(t, "one more", 9, longBook(201), 0, api.ErrMany)
	stops(t, "many more", 9, longBook(100000), 0, api.ErrMany)
	stops(t, "one more, in error", 9, make([]api.Act, 201), 0, api.ErrMany)
	stops(t, "MaxBook, in error", 9, make([]api.Act, 200), 0, api.ErrArg)
	for life, isRight := range around(1, 1000) {
		stops(t, life, life, longBook(201), 0, api.ErrMany)
		stops(t, life, life, append([]api.Act{transfer(0)}, longBook(200)...), 0, api.ErrMany)
		if isRight {
			plays(t, life, life, longBook(3), storeOf(life, items(die(0, 0))))
			plays(t, life, life, nil, api.Store{Life: life})
			stops(t, life, life, []api.Act{engrave(), move(5, 1)}, 1, api.ErrNone)
			continue
		}
		stops(t, life, life, longBook(200), 0, api.ErrArg)
		stops(t, life, life, nil, 0, api.ErrArg)
		stops(t, life, life, []api.Act{engrave(), move(5, 1)}, 0, api.ErrArg)
		stops(t, life, life, []api.Act{transfer(0)}, 0, api.ErrArg)
	}
}

// TestBookErrors: P8.2, an error in the first act, in the last one and in one between: only the first one that there is counts.
func TestBookErrors(t *testing.T) {
	for name, x := range map[string]struct {
		a api.Act
		e api.Errno
	}{"ErrNone": {move(3, 1), api.ErrNone}, "ErrArg": {destroy(1), api.ErrArg}, "kind": {api.Act{}, api.ErrArg}, "prints": {issue(0, 3), api.ErrNone}} {
		book := append(exampleBook(), issue(1, 1), spoil(0, 1))
		for at := range len(book) + 1 {
			want := x.e
			if name == "ErrArg" && at < 3 {
				want = api.ErrNone
			}
			stops(t, name, 3, slices.Insert(slices.Clone(book), at, x.a), at, want)
			stops(t, name, 3, append(slices.Clone(book[:at]), x.a, transfer(-1), api.Act{Kind: 99}), at, want)
		}
	}
	stops(t, "ErrFull", 3, repeat(31, engrave()), 30, api.ErrFull)
	stops(t, "ErrTaken", 3, []api.Act{engrave(), move(0, 1), transfer(0), transfer(1), transfer(1), move(2, 2), move(3, 2)}, 6, api.ErrTaken)
	stops(t, "the last one of MaxBook", 3, append(longBook(199), destroy(9)), 199, api.ErrNone)
	stops(t, "worn", 3, slices.Concat([]api.Act{engrave(), move(0, 1)}, repeat(11, transfer(0))), 12, api.ErrWorn)
}

// TestWhere: P8.2, an item that is made late, that is destroyed, and that is not there in the end.
func TestWhere(t *testing.T) {
	book := []api.Act{engrave(), move(0, 1), transfer(0), move(0, 0), transfer(1), destroy(0), move(2, 5), move(2, 9), impress(2, 1), issue(0, 1), move(2, 0), destroy(2), engrave()}
	for item, want := range [][]int{
		{0, 1, 1, 0, 0, -1, -1, -1, -1, -1, -1, -1, -1},
		{-1, -1, 1, 1, 1, 1, 1, 1, 1, 1, 1, 1, 1},
		{-1, -1, -1, -1, 1, 1, 5, 9, 9, 9, 0, -1, -1},
		{-1, -1, -1, -1, -1, -1, -1, -1, -1, -1, -1, -1, 0},
	} {
		places, e := plate.Where(3, book, item)
		is(t, item, places, e, want...)
	}
	for _, item := range absent(4) {
		places, e := plate.Where(3, book, item)
		fails(t, item, places, e, api.ErrNone)
		places, e = plate.Where(3, nil, item)
		fails(t, item, places, e, api.ErrNone)
	}
	places, e := plate.Where(3, book[:12], 3)
	fails(t, "not yet there", places, e, api.ErrNone)
	places, e = plate.Where(3, nil, 0)
	fails(t, "no act", places, e, api.ErrNone)
	places, e = plate.Where(3, longBook(200), 0)
	is(t, "long", places, e, append([]int{0, 1}, slices.Repeat([]int{0, 1}, 99)...)...)
}

// TestCuts: P8.8, a book can be cut anywhere: what is done after the cut is done to the store that is there.
func TestCuts(t *testing.T) {
	r := rand.New(rand.NewSource(92))
	for range 60 {
		life := 1 + r.Intn([]int{3, 1000}[r.Intn(2)])
		book := randomBook(r, life, r.Intn([]int{20, 201}[r.Intn(2)]))
		s := api.Store{Life: life}
		for i, a := range book {
			plays(t, i, life, book[:i], s)
			after, e := plate.Do(s, a)
			if e != api.OK {
				t.Fatal(s, a, e)
			}
			s = after
		}
		plays(t, "all", life, book, s)
		for range 5 {
			a := randomAct(r, s)
			if want, e := plate.Do(s, a); e != api.OK && len(book) < 200 {
				stops(t, a, life, append(slices.Clone(book), a), len(book), e)
			} else if len(book) < 200 {
				plays(t, a, life, append(slices.Clone(book), a), want)
			}
		}
	}
}

// TestPlacesOfBooks: P8.2 and P8.8, Where says for each item and each act where the item is then, and an item only changes its place by an act that moves it, makes it or destroys it.
func TestPlacesOfBooks(t *testing.T) {
	r := rand.New(rand.NewSource(93))
	for range 100 {
		book := randomBook(r, 50, r.Intn(201))
		s, _, e := plate.Play(50, book)
		if e != api.OK {
			t.Fatal(book, e)
		}
		for item := range s.Items {
			places, e := plate.Where(50, book, item)
			if e != api.OK || len(places) != len(book) {
				t.Fatal(item, places, e)
			}
			before := -1
			for i, place := range places {
				if place != before && !explains(book[i], item, before, place) {
					t.Error(book[i], "moves", item, "from", before, "to", place)
				}
				before = place
			}
			if last := s.Items[item]; before != last.Place && !last.Gone || before != -1 && last.Gone {
				t.Error(item, "is at", before, last)
			}
		}
		places, e := plate.Where(50, book, len(s.Items))
		fails(t, "one more", places, e, api.ErrNone)
	}
}

// explains reports whether an act may be why an item is at another place.
func explains(a api.Act, item, before, place int) bool {
	switch a.Kind {
	case 1:
		return before == -1 && place == 0
	case 2:
		return before == -1 && place == 1 && a.Item < item
	case 3:
		return a.Item == item && a.To == place && before != -1
	}
	return a.Kind == 7 && a.Item == item && before == 0 && place == -1
}

// usesOfPlates returns the uses of all plates.
func usesOfPlates(s api.Store) int {
	uses := 0
	for _, i := range s.Items {
		if i.Kind == 3 {
			uses += i.Uses
		}
	}
	return uses
}

// TestWhateverIsDone: P8.6 and P8.7, any acts, one after the other: the store stays valid, a refused act changes nothing, each impression is accounted for, and none that was issued or spoiled comes back.
func TestWhateverIsDone(t *testing.T) {
	r := rand.New(rand.NewSource(94))
	done, refused := 0, 0
	for range 60 {
		s := api.Store{Life: 1 + r.Intn([]int{5, 40, 1000}[r.Intn(3)])}
		for range 300 {
			a := randomAct(r, s)
			before := copyOf(s)
			after, e := plate.Do(s, a)
			if !areSame(s, before) {
				t.Fatal(a, "changes its store")
			}
			if e != api.OK {
				refused++
				continue
			}
			done++
			stock, issued, spoiled, e := plate.Counts(after)
			if !isValid(after) || plate.Check(after) != api.OK || e != api.OK || stock+issued+spoiled != usesOfPlates(after) || stock+issued+spoiled != len(after.Prints) {
				t.Fatal(s, a, "gives", after, stock, issued, spoiled, e)
			}
			for i, p := range s.Prints {
				if after.Prints[i].Plate != p.Plate || p.State != 0 && after.Prints[i] != p {
					t.Fatal(a, "makes", after.Prints[i], "of", p)
				}
			}
			s = after
		}
	}
	if done < 3000 || refused < 2000 {
		t.Error("only", done, refused)
	}
}
