package exact

import "barleycorn/api"

// unlessLarge returns what work returns, or ErrLarge if it gives up with a panic, since a number or a list became too large.
func unlessLarge[T any](work func() T) (result T, e api.Errno) {
	defer func() {
		if recover() != nil {
			e = api.ErrLarge
		}
	}()
	return work(), api.OK
}
