package rosette

import "barleycorn/api"

// Both returns the rubber that is as high as two rubbers are, one upon the other (P3.5).
func Both(b, c []int) ([]int, api.Errno) {
	if CheckRubber(b, api.MaxRubber) != api.OK || CheckRubber(c, api.MaxRubber) != api.OK {
		return nil, api.ErrRubber
	}
	middle := reach(b) + reach(c)
	if 2*middle+1 > api.MaxRubber {
		return nil, api.ErrMany
	}
	both := make([]int, 2*middle+1)
	for k := range both {
		both[k] = api.MaxRise
	}
	for i, lower := range offsets(b) {
		for j, upper := range offsets(c) {
			k := middle + i + j
			both[k] = min(both[k], lower+upper)
		}
	}
	return both, api.OK
}
