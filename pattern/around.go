package pattern

import (
	"barleycorn/api"
	"barleycorn/motion"
)

// Around returns how many different curves a path makes that is cut n times around (P4.8).
func Around(path []api.Arm, n int) (int, api.Errno) {
	order, e := motion.Order(path)
	if e != api.OK {
		return 0, e
	}
	if !isWithin(n, 1, api.MaxParts) {
		return 0, api.ErrArg
	}
	if order == 0 {
		return 1, api.OK // whatever it is turned by
	}
	return n / divisor(n, order), api.OK
}
