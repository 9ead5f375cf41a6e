package groove

import "barleycorn/api"

// Hide returns the slips that hide a slip (P5.5).
func Hide(made []int, left, most int) ([]int, api.Errno) {
	if len(made) > api.MaxFamily {
		return nil, api.ErrMany
	}
	if len(made) == 0 || !areWithin(-api.MaxSlip, api.MaxSlip, made...) || !areWithin(0, api.MaxFamily, left) || !areWithin(0, api.MaxHide, most) {
		return nil, api.ErrArg
	}
	first, last := made[0], made[len(made)-1]
	if max(first-last, last-first) > (left+1)*most {
		return nil, api.ErrNone
	}
	slips := make([]int, left)
	for i := range slips {
		slips[i] = leastSlip(last, (i+1)*most, first, (left-i)*most)
	}
	return slips, api.OK
}

// leastSlip returns the slip nearest to 0 that differs from the last slip, and from the first one, by at most so much. These hide a slip together, as both bounds change from each cut to the next one by at most what neighbours may differ by. As each of them is as near to 0 as it can be, all others have more that are not 0, or a greater sum: the order never has to decide.
func leastSlip(last, fromLast, first, fromFirst int) int {
	low := max(last-fromLast, first-fromFirst)
	high := min(last+fromLast, first+fromFirst)
	return min(max(low, 0), high)
}
