package pattern

import (
	"math/big"
	"math/rand"
	"testing"

	"barleycorn/api"
	"barleycorn/exact"
)

// TestIndexExamples: P4.7, the chapter's examples; several plates that are equally near, and two numbers of holes that are.
func TestIndexExamples(t *testing.T) {
	three := []int{96, 72, 60}
	for _, x := range []struct {
		plates                 []int
		num, den, plate, holes int
		off                    string
	}{
		{three, 1, 7, 0, 14, "1/336"}, {three, 5, 12, 0, 40, "0"}, {three, 1, 10, 2, 6, "0"}, {three, 1, 9, 1, 8, "0"}, {three, 1, 1, 0, 96, "0"}, {three, 0, 1, 0, 0, "0"}, {three, 0, 7, 0, 0, "0"}, {three, 7, 7, 0, 96, "0"},
		{three, 1, 192, 0, 0, "1/192"}, {three, 191, 192, 0, 95, "1/192"}, {[]int{1}, 1, 2, 0, 0, "1/2"}, {[]int{1}, 501, 1000, 0, 1, "499/1000"}, {[]int{3}, 1, 2, 0, 1, "1/6"}, {[]int{5}, 1, 2, 0, 2, "1/10"},
		{[]int{4, 4, 8}, 1, 4, 0, 1, "0"}, {[]int{7, 8, 4}, 1, 4, 1, 2, "0"}, {[]int{3, 3}, 1, 2, 0, 1, "1/6"}, {[]int{1, 3, 9, 3}, 1, 2, 2, 4, "1/18"},
		{[]int{2, 3}, 2, 5, 1, 1, "1/15"}, {[]int{6, 12}, 1, 4, 1, 3, "0"}, {[]int{12, 6}, 1, 5, 0, 2, "1/30"}, {[]int{6, 12}, 1, 5, 0, 1, "1/30"}, {[]int{6, 4}, 5, 24, 0, 1, "1/24"}, {[]int{4, 6}, 5, 24, 0, 1, "1/24"},
		{[]int{360}, 999, 1000, 0, 360, "1/1000"}, {[]int{359, 360}, 1, 1000, 0, 0, "1/1000"}, {[]int{359, 360}, 1, 719, 1, 1, "359/258840"},
	} {
		plate, holes, off, e := Index(x.plates, x.num, x.den)
		text, f := exact.Text(off)
		if e != api.OK || f != api.OK || plate != x.plate || holes != x.holes || text != x.off {
			t.Error(x, plate, holes, text, e)
		}
	}
}

// TestIndexErrors: P4.7, how many plates there are, their holes, den and num at their limits and just beyond them.
func TestIndexErrors(t *testing.T) {
	one := []int{12}
	for _, x := range []struct {
		plates   []int
		num, den int
		want     api.Errno
	}{
		{all(api.MaxWheels, 5), 1, 2, api.OK}, {all(api.MaxWheels+1, 5), 1, 2, api.ErrMany}, {all(api.MaxWheels+1, 0), -1, 0, api.ErrMany}, {all(1000, 361), 1, 2, api.ErrMany},
		{nil, 1, 2, api.ErrArg}, {[]int{}, 1, 2, api.ErrArg}, {one, 1, 2, api.OK}, {[]int{1, api.MaxHoles}, 1, 2, api.OK}, {[]int{0}, 1, 2, api.ErrArg}, {[]int{api.MaxHoles + 1}, 1, 2, api.ErrArg},
		{[]int{12, 0}, 1, 2, api.ErrArg}, {[]int{12, -1, 12}, 1, 2, api.ErrArg}, {[]int{12, leastInt}, 1, 2, api.ErrArg}, {[]int{greatestInt, 12}, 1, 2, api.ErrArg},
		{one, 0, 0, api.ErrArg}, {one, 0, 1, api.OK}, {one, 1, 1, api.OK}, {one, 2, 1, api.ErrArg}, {one, 0, -1, api.ErrArg}, {one, -1, -1, api.ErrArg}, {one, leastInt, leastInt, api.ErrArg},
		{one, 0, api.MaxParts, api.OK}, {one, api.MaxParts, api.MaxParts, api.OK}, {one, 1, api.MaxParts + 1, api.ErrArg}, {one, 1, greatestInt, api.ErrArg}, {one, api.MaxParts + 1, api.MaxParts, api.ErrArg},
		{one, -1, 7, api.ErrArg}, {one, 0, 7, api.OK}, {one, 7, 7, api.OK}, {one, 8, 7, api.ErrArg}, {one, leastInt, 7, api.ErrArg}, {one, greatestInt, 7, api.ErrArg},
	} {
		if _, _, off, e := Index(x.plates, x.num, x.den); e != x.want || (e == api.OK) != (exact.CheckFrac(off) == api.OK) {
			t.Error(x, off, e)
		}
	}
}

// TestRandomIndex: P4.7, against trying all holes of all plates, for random plates.
func TestRandomIndex(t *testing.T) {
	r := rand.New(rand.NewSource(52))
	for range 400 {
		var plates []int
		most := []int{6, 40, api.MaxHoles}[r.Intn(3)]
		for range 1 + r.Intn(api.MaxWheels) {
			plates = append(plates, 1+r.Intn(most))
		}
		den := 1 + r.Intn([]int{4, 30, api.MaxParts}[r.Intn(3)])
		num := r.Intn(den + 1)
		wantPlate, wantHoles := 0, 0
		var least *big.Rat
		for i, all := range plates {
			for holes := range all + 1 {
				off := new(big.Rat).Sub(big.NewRat(int64(holes), int64(all)), big.NewRat(int64(num), int64(den)))
				if off.Abs(off); least == nil || off.Cmp(least) < 0 {
					wantPlate, wantHoles, least = i, holes, off
				}
			}
		}
		plate, holes, off, e := Index(plates, num, den)
		text, f := exact.Text(off)
		if e != api.OK || f != api.OK || plate != wantPlate || holes != wantHoles || text != least.RatString() {
			t.Fatal(plates, num, den, plate, holes, text, "want", wantPlate, wantHoles, least)
		}
	}
}
