package motion

import (
	"slices"

	"barleycorn/api"
)

// Train returns wheels that make a ratio (P2.6).
func Train(wheels []int, num, den int) ([]int, api.Errno) {
	if len(wheels) > api.MaxWheels {
		return nil, api.ErrMany
	}
	for _, teeth := range wheels {
		if teeth < api.MinTeeth || teeth > api.MaxTeeth {
			return nil, api.ErrArg
		}
	}
	if num < 1 || num > api.MaxRatio || den < 1 || den > api.MaxRatio {
		return nil, api.ErrArg
	}
	for _, count := range []int{2, 4} {
		if train := firstTrain(wheels, num, den, count); train != nil {
			return train, api.OK
		}
	}
	return nil, api.ErrNone
}

// firstTrain returns the first so many indices in lexicographic order whose wheels make a ratio, or nil.
func firstTrain(wheels []int, num, den, count int) []int {
	train := make([]int, 0, count)
	var complete func(above, below int) bool
	// The indices are tried from the least one on, so what is found first is the first one in lexicographic order.
	complete = func(above, below int) bool {
		if len(train) == count {
			return above*den == below*num
		}
		for i, teeth := range wheels {
			if slices.Contains(train, i) {
				continue
			}
			// The wheels stand above and below the line by turns.
			nextAbove, nextBelow := above*teeth, below
			if len(train)%2 == 1 {
				nextAbove, nextBelow = above, below*teeth
			}
			train = append(train, i)
			if complete(nextAbove, nextBelow) {
				return true
			}
			train = train[:len(train)-1]
		}
		return false
	}
	if complete(1, 1) {
		return train
	}
	return nil
}
