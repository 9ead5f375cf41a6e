package plate

import "barleycorn/api"

// Play returns the store after a book (P8.2).
func Play(life int, book []api.Act) (s api.Store, at int, e api.Errno) {
	w, at, e := play(life, book, func(*workshop) {})
	if e != api.OK {
		return api.Store{}, at, e
	}
	return w.Store, 0, api.OK
}

// Where returns the place of an item after each act (P8.2).
func Where(life int, book []api.Act, item int) ([]int, api.Errno) {
	var places []int
	w, _, e := play(life, book, func(w *workshop) { places = append(places, w.placeOf(item)) })
	if e != api.OK {
		return nil, e
	}
	if !hasItem(w.Store, item) {
		return nil, api.ErrNone
	}
	return places, api.OK
}

// play returns the workshop after a book, or where it failed, and how. It shows the workshop to look after each act.
func play(life int, book []api.Act, look func(*workshop)) (w *workshop, at int, e api.Errno) {
	if len(book) > api.MaxBook {
		return nil, 0, api.ErrMany
	}
	if !isWithin(1, api.MaxLife, life) {
		return nil, 0, api.ErrArg
	}
	w = workshopOf(api.Store{Life: life})
	for at, a := range book {
		if e := w.do(a); e != api.OK {
			return nil, at, e
		}
		look(w)
	}
	return w, 0, api.OK
}

// placeOf returns where an item is; -1 if it is not there, or gone.
func (w *workshop) placeOf(number int) int {
	if !hasItem(w.Store, number) || w.Items[number].Gone {
		return -1
	}
	return w.Items[number].Place
}
