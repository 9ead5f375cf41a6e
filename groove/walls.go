package groove

import "barleycorn/api"

// Walls returns all pairs that break a wall (P5.3).
func Walls(w api.Work) ([]api.Pair, api.Errno) {
	b, e := benchOf(w)
	if e != api.OK {
		return nil, e
	}
	var broken []api.Pair
	for i := range w.Cuts {
		for j := i + 1; j < len(w.Cuts); j++ {
			if b.breaksWall(i, j) {
				broken = append(broken, api.Pair{A: i, B: j})
			}
		}
	}
	return broken, api.OK
}

// Deep returns the cuts that are too deep (P5.3).
func Deep(w api.Work) ([]int, api.Errno) {
	b, e := benchOf(w)
	if e != api.OK {
		return nil, e
	}
	var deep []int
	for i := range w.Cuts {
		if b.highs[i] > w.Deepest {
			deep = append(deep, i)
		}
	}
	return deep, api.OK
}

// breaksWall reports whether two cuts break a wall.
func (b *bench) breaksWall(i, j int) bool {
	if b.Cuts[i].Cross && b.Cuts[j].Cross {
		return false
	}
	return areNearer(b.Cuts[i].Spots, b.Cuts[j].Spots, b.reaches[i]+b.reaches[j]+b.Wall+3*b.Play)
}
