package plate

import (
	"slices"

	"barleycorn/api"
)

// Do returns the store after an act (P8.1).
func Do(s api.Store, a api.Act) (api.Store, api.Errno) {
	if e := Check(s); e != api.OK {
		return api.Store{}, e
	}
	w := workshopOf(s)
	if e := w.do(a); e != api.OK {
		return api.Store{}, e
	}
	return w.Store, api.OK
}

// A workshop is a valid store at work, whose lists are its own.
type workshop struct {
	api.Store
	presses map[int]int // the number of the item at each press where there is one
}

// workshopOf returns a workshop with copies of what is in a valid store.
func workshopOf(s api.Store) *workshop {
	s.Items, s.Prints = slices.Clone(s.Items), slices.Clone(s.Prints)
	return &workshop{s, pressesOf(s.Items)}
}

// A refusal is the error of an act that cannot be done.
type refusal api.Errno

// refuseIf gives up an act if something is so. An act has to ask all that it asks before it changes anything.
func refuseIf(is bool, e api.Errno) {
	if is {
		panic(refusal(e))
	}
}

// do does an act, or returns its error.
func (w *workshop) do(a api.Act) (e api.Errno) {
	defer func() {
		switch reason := recover().(type) {
		case nil:
		case refusal:
			e = api.Errno(reason)
		default: // Acts go wrong in no other way, unless Check lets through a store that is not valid.
			e = api.ErrStore
		}
	}()
	kinds := actsByKind()
	refuseIf(int(a.Kind) >= len(kinds) || kinds[a.Kind] == nil, api.ErrArg)
	kinds[a.Kind](w, a)
	return api.OK
}

// actsByKind returns how each kind of act is done.
func actsByKind() [api.ActDestroy + 1]func(*workshop, api.Act) {
	return [...]func(*workshop, api.Act){
		api.ActEngrave:  (*workshop).engrave,
		api.ActTransfer: (*workshop).transfer,
		api.ActMove:     (*workshop).move,
		api.ActPrint:    (*workshop).print,
		api.ActIssue:    (*workshop).issue,
		api.ActSpoil:    (*workshop).spoil,
		api.ActDestroy:  (*workshop).destroy,
	}
}

// engrave does an ActEngrave.
func (w *workshop) engrave(api.Act) {
	w.add(api.Item{Kind: api.KindDie, From: -1, Place: api.PlaceVault})
}

// transfer does an ActTransfer.
func (w *workshop) transfer(a api.Act) {
	from := w.present(a.Item)
	refuseIf(from.Kind == api.KindPlate || from.Place != api.PlaceTransfer, api.ErrArg)
	refuseIf(from.Uses == api.MaxUses, api.ErrWorn)
	w.add(api.Item{Kind: from.Kind + 1, From: a.Item, Place: api.PlaceTransfer})
	w.Items[a.Item].Uses++
}

// move does an ActMove.
func (w *workshop) move(a api.Act) {
	item := w.present(a.Item)
	refuseIf(!mayBeAt(item, a.To), api.ErrArg)
	other, isTaken := w.presses[a.To]
	refuseIf(isTaken && other != a.Item, api.ErrTaken)
	delete(w.presses, item.Place)
	if isPress(a.To) {
		w.presses[a.To] = a.Item
	}
	w.Items[a.Item].Place = a.To
}

// print does an ActPrint. (Only plates are at presses.)
func (w *workshop) print(a api.Act) {
	item := w.present(a.Item)
	refuseIf(!isPress(item.Place) || !isWithin(1, api.MaxPrints, a.N), api.ErrArg)
	refuseIf(item.Uses+a.N > w.Life, api.ErrWorn)
	refuseIf(len(w.Prints)+a.N > api.MaxPrints, api.ErrFull)
	for range a.N {
		w.Prints = append(w.Prints, api.Print{Plate: a.Item, State: api.PrintStock})
	}
	w.Items[a.Item].Uses += a.N
}

// issue does an ActIssue.
func (w *workshop) issue(a api.Act) { w.take(a, api.PrintIssued) }

// spoil does an ActSpoil.
func (w *workshop) spoil(a api.Act) { w.take(a, api.PrintSpoiled) }

// destroy does an ActDestroy.
func (w *workshop) destroy(a api.Act) {
	refuseIf(w.present(a.Item).Place != api.PlaceVault, api.ErrArg)
	w.Items[a.Item].Gone = true
}

// present returns the item with a number, which has to be there, and not gone.
func (w *workshop) present(number int) api.Item {
	refuseIf(!hasItem(w.Store, number) || w.Items[number].Gone, api.ErrNone)
	return w.Items[number]
}

// add adds an item, for which there has to be room.
func (w *workshop) add(item api.Item) {
	refuseIf(len(w.Items) == api.MaxItems, api.ErrFull)
	w.Items = append(w.Items, item)
}

// take takes prints out of stock.
func (w *workshop) take(a api.Act, state uint8) {
	refuseIf(!isWithin(1, api.MaxPrints, a.N), api.ErrArg)
	refuseIf(!isWithin(0, len(w.Prints)-a.N, a.Item), api.ErrNone)
	prints := w.Prints[a.Item : a.Item+a.N]
	for _, p := range prints {
		refuseIf(p.State != api.PrintStock, api.ErrSpent)
	}
	for i := range prints {
		prints[i].State = state
	}
}
