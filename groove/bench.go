package groove

import (
	"slices"

	"barleycorn/api"
)

// A bench is a valid work, with what the tool makes of each of its cuts.
type bench struct {
	api.Work
	highs   [api.MaxCuts]int // the high depths
	reaches [api.MaxCuts]int
}

// benchOf returns the bench of a work, or Check's error.
func benchOf(w api.Work) (*bench, api.Errno) {
	if e := Check(w); e != api.OK {
		return nil, e
	}
	b := &bench{Work: w}
	for i, cut := range w.Cuts {
		_, b.highs[i] = depth(w.Tool, cut.Press)
		b.reaches[i] = half(w.Tool, b.highs[i])
	}
	return b, api.OK
}

// isBefore reports whether a rule says that one cut must be made before another one.
func (b *bench) isBefore(i, j int) bool { return b.fallsInto(i, j) || b.chatters(i, j) }

// fallsInto reports whether the foot, beside the tool at the cut i, would fall into the cut j.
func (b *bench) fallsInto(i, j int) bool {
	return b.highs[j] > b.FootDepth && areNearer(b.footLine(i), b.Cuts[j].Spots, b.FootHalf+b.reaches[j])
}

// chatters reports whether the tool would chatter at the cut i if the cut j were there.
func (b *bench) chatters(i, j int) bool {
	return b.Cuts[i].Press > b.Cuts[j].Press && areNearer(b.Cuts[i].Spots, b.Cuts[j].Spots, b.reaches[i]+b.reaches[j])
}

// footLine returns the foot's line for a cut.
func (b *bench) footLine(i int) []api.Spot {
	line := slices.Clone(b.Cuts[i].Spots)
	for k := range line {
		line[k].X += b.Foot.X
		line[k].Y += b.Foot.Y
	}
	return line
}
