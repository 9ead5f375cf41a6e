package exact

// each returns the list of what a function makes of the elements of another one.
func each[A, B any](list []A, change func(A) B) []B {
	if len(list) == 0 {
		return nil
	}
	changed := make([]B, len(list))
	for i, x := range list {
		changed[i] = change(x)
	}
	return changed
}

// zeroable is a number that may be 0.
type zeroable interface{ isZero() bool }

// withoutZeros returns a list without the numbers at its end that are 0.
func withoutZeros[T zeroable](list []T) []T {
	n := len(list)
	for n > 0 && list[n-1].isZero() {
		n--
	}
	return list[:n]
}
