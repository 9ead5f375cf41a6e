package lathe_test

import (
	"math/rand"
	"slices"
	"testing"

	"barleycorn/api"
	"barleycorn/lathe"
)

// TestMaskExamples: P7.5, the chapter's example, the order of the bits of a glyph, gaps, sizes, and more columns and lines than the word needs.
func TestMaskExamples(t *testing.T) {
	for _, x := range []struct {
		word              []int
		size, cols, lines int
		want              [][]bool
	}{
		{[]int{31599}, 1, 4, 5, yes("xxx.", "x.x.", "x.x.", "x.x.", "xxx.")},
		{[]int{31599}, 1, 3, 5, yes("xxx", "x.x", "x.x", "x.x", "xxx")},
		{[]int{0o42174}, 1, 3, 5, yes("x..", ".x.", "..x", "xxx", "x..")},
		{[]int{0o42174}, 2, 7, 6, yes("xx.....", "..xx...", "....xx.", "xxxxxx.", "xx.....", ".......")},
		{[]int{0o70000, 0o00007}, 1, 8, 5, yes("xxx.....", "........", "........", "........", "....xxx.")},
		{[]int{0o12345, 0o54321}, 1, 7, 5, yes("..x.x.x", ".x..x..", ".xx..xx", "x....x.", "x.x...x")},
		{[]int{0o12345, 0o54321}, 2, 14, 5, yes("....xx..xx..xx", "..xx....xx....", "..xxxx....xxxx", "xx........xx..", "xx..xx......xx")},
		{nil, 1, 3, 5, yes("...", "...", "...", "...", "...")},
		{[]int{}, 40, 1, 6, yes(".", ".", ".", ".", ".", ".")},
		{[]int{0}, 1, 3, 5, yes("...", "...", "...", "...", "...")},
		{[]int{32767}, 3, 10, 5, yes("xxxxxxxxx.", "xxxxxxxxx.", "xxxxxxxxx.", "xxxxxxxxx.", "xxxxxxxxx.")},
		{[]int{32767, 32767}, 1, 7, 12, append(yes("xxx.xxx", "xxx.xxx", "xxx.xxx", "xxx.xxx", "xxx.xxx"), masks(all(7, 7)...)...)},
	} {
		m, e := lathe.Mask(x.word, x.size, x.cols, x.lines)
		are(t, x, m, e, x.want...)
		l, e := lathe.Spell(m, x.size, len(x.word))
		is(t, x, l, e, x.word...)
	}
	for i := range 15 { // each bit alone
		m, e := lathe.Mask([]int{1 << (14 - i)}, 1, 3, 5)
		want := yes("...", "...", "...", "...", "...")
		want[i/3][i%3] = true
		are(t, i, m, e, want...)
	}
}

// TestMaskErrors: P7.5, each of the errors, and which is first where several apply: no glyph, MaxWord and one more, glyphs at 0, at 32,767 and just beyond, sizes, columns and lines at their limits and just beyond, 4 lines and 5, and words that just fit and just do not.
func TestMaskErrors(t *testing.T) {
	for _, x := range []struct {
		word              []int
		size, cols, lines int
		want              api.Errno
	}{
		{all(8, 0), 1, 31, 5, api.OK}, {all(8, 0), 1, 30, 5, api.ErrNone}, {all(8, 32767), 1, 40, 12, api.OK}, {all(9, 0), 1, 40, 12, api.ErrMany}, {all(9, -1), 0, 0, 0, api.ErrMany}, {make([]int, 100000), 1, 40, 12, api.ErrMany}, {all(9, 0), 1, 30, 4, api.ErrMany},
		{[]int{1}, 1, 3, 5, api.OK}, {[]int{1}, 1, 2, 5, api.ErrNone}, {[]int{1}, 1, 3, 4, api.ErrNone}, {[]int{1}, 1, 3, 1, api.ErrNone}, {nil, 1, 1, 4, api.ErrNone}, {nil, 1, 1, 5, api.OK},
		{[]int{1}, 13, 39, 5, api.OK}, {[]int{1}, 13, 38, 5, api.ErrNone}, {[]int{1}, 14, 40, 5, api.ErrNone}, {[]int{1}, 40, 40, 12, api.ErrNone}, {[]int{1, 2}, 5, 35, 5, api.OK}, {[]int{1, 2}, 5, 34, 5, api.ErrNone}, {[]int{1, 2, 3}, 3, 33, 5, api.OK}, {[]int{1, 2, 3}, 3, 32, 5, api.ErrNone}, {all(5, 7), 2, 38, 5, api.OK}, {all(5, 7), 2, 37, 5, api.ErrNone}, {all(6, 7), 2, 40, 5, api.ErrNone},
		{[]int{-1}, 1, 2, 4, api.ErrArg}, {[]int{32768}, 1, 2, 4, api.ErrArg}, {[]int{1}, 0, 2, 4, api.ErrArg}, {[]int{1}, 41, 2, 4, api.ErrArg}, {[]int{1}, 1, 0, 4, api.ErrArg}, {[]int{1}, 1, 41, 4, api.ErrArg}, {[]int{1}, 1, 2, 0, api.ErrArg}, {[]int{1}, 1, 2, 13, api.ErrArg},
	} {
		m, e := lathe.Mask(x.word, x.size, x.cols, x.lines)
		ends(t, x, m, e, x.want)
	}
	for glyph, isValid := range around(0, 32767) {
		for i := range 8 {
			m, e := lathe.Mask(with(all(8, 7), i, glyph), 1, 31, 5)
			ends(t, glyph, m, e, errorUnless(isValid, api.ErrArg))
		}
	}
	for n, isValid := range around(1, 40) {
		m, e := lathe.Mask(nil, n, 1, 5)
		ends(t, n, m, e, errorUnless(isValid, api.ErrArg))
		m, e = lathe.Mask(nil, 1, n, 5)
		ends(t, n, m, e, errorUnless(isValid, api.ErrArg))
	}
	for n, isValid := range around(1, 12) {
		m, e := lathe.Mask([]int{7}, 1, 3, n)
		want := errorUnless(isValid, api.ErrArg)
		if isValid && n < 5 {
			want = api.ErrNone
		}
		ends(t, n, m, e, want)
		if e == api.OK && len(m) != n {
			t.Error(n, m)
		}
	}
}

// TestSpellExamples: P7.5, cells of which just half of the columns are yes, and one more, for even and odd sizes; what is in a gap, beside the word and below it does not matter.
func TestSpellExamples(t *testing.T) {
	for _, x := range []struct {
		mask    [][]bool
		size, n int
		want    []int
	}{
		{yes("xxx.", "x.x.", "x.x.", "x.x.", "xxx."), 1, 1, []int{31599}},
		{yes("x.xx..", ".xxxx.", "......", "xxxxxx", ".x.x.x"), 2, 1, []int{0o22070}},
		{yes("xx..x...x", "xxx......", "...xx....", "......xxx", "x.x.x.x.x"), 3, 1, []int{0o44215}},
		{yes("xx..xxx.....", "xxxx.xx..x..", "..xx.x.xxxxx", "............", "xxxxxxxxxxxx"), 4, 1, []int{0o24107}},
		{yes("xxx..xx...xxxxx", "..xxx.x.x.x...x", ".x.x.xx..xx..xx", "...............", "xxxxxxxxxxxxxxx"), 5, 1, []int{0o54307}},
		{yes("xxxxxxx", "...x...", "..xx.x.", "x..x..x", "...x..."), 1, 2, []int{0o70140, 0o70210}},
		{yes("xxx.xxx", "xxx.xxx", "xxx.xxx", "xxx.xxx", "xxx.xxx"), 1, 1, []int{32767}},
		{yes("...xxxx", "...xxxx", "...xxxx", "...xxxx", "...xxxx", "xxxxxxx"), 1, 1, []int{0}},
		{yes("...xxxx", "...xxxx", "...xxxx", "...xxxx", "...xxxx", ""), 1, 2, []int{0, 32767}},
		{yes("", "", "", "", ""), 1, 0, nil},
		{make([][]bool, 5), 40, 0, nil},
		{yes("xxx", "xxx", "xxx", "xxx", "xxx"), 1, 0, nil},
	} {
		l, e := lathe.Spell(x.mask, x.size, x.n)
		is(t, x, l, e, x.want...)
	}
}

// TestMajority: P7.5, for each size, cells with each number of columns that are yes, at either side of the cell.
func TestMajority(t *testing.T) {
	for size := 1; size <= 40; size++ {
		for n := range size + 1 {
			for side := range 2 {
				l := make([]bool, 3*size)
				for c := range n {
					l[size+side*(size-1)+c*(1-2*side)] = true
				}
				word, e := lathe.Spell([][]bool{l, l, l, l, l}, size, 1)
				want := 0
				if n > size-n {
					want = 0o22222
				}
				is(t, []int{size, n}, word, e, want)
			}
		}
	}
}

// masks returns lists of some lengths.
func masks(lengths ...int) [][]bool {
	var mask [][]bool
	for _, n := range lengths {
		mask = append(mask, make([]bool, n))
	}
	return mask
}

// TestSpellErrors: P7.5, size at its limits and just beyond, n at 0, at MaxWord and one more, 4 lists and 5, and lists of different lengths that just suffice and just do not, also behind the first 5; ErrArg before ErrNone.
func TestSpellErrors(t *testing.T) {
	for n, isValid := range around(1, 40) {
		l, e := lathe.Spell(masks(120, 120, 120, 120, 120), n, 1)
		ends(t, n, l, e, errorUnless(isValid, api.ErrArg))
		l, e = lathe.Spell(nil, n, 1)
		fails(t, n, l, e, map[bool]api.Errno{true: api.ErrNone, false: api.ErrArg}[isValid])
	}
	for n, isValid := range around(0, 8) {
		l, e := lathe.Spell(masks(31, 31, 31, 31, 31), 1, n)
		ends(t, n, l, e, errorUnless(isValid, api.ErrArg))
		if isValid && len(l) != n {
			t.Error(n, l)
		}
		l, e = lathe.Spell(masks(31, 31, 31, 31), 1, n)
		fails(t, n, l, e, map[bool]api.Errno{true: api.ErrNone, false: api.ErrArg}[isValid])
	}
	for _, x := range []struct {
		mask    [][]bool
		size, n int
		want    api.Errno
	}{
		{nil, 1, 0, api.ErrNone}, {masks(0, 0, 0, 0), 1, 0, api.ErrNone}, {masks(0, 0, 0, 0, 0), 1, 0, api.OK}, {masks(0, 0, 0, 0, 0), 1, 1, api.ErrNone}, {masks(9, 9, 9, 9), 1, 1, api.ErrNone},
		{masks(3, 3, 3, 3, 3), 1, 1, api.OK}, {masks(3, 3, 3, 3, 2), 1, 1, api.ErrNone}, {masks(2, 3, 3, 3, 3), 1, 1, api.ErrNone}, {masks(3, 3, 2, 3, 3), 1, 1, api.ErrNone}, {masks(3, 4, 5, 60, 3), 1, 1, api.OK}, {masks(3, 4, 5, 60, 3), 1, 2, api.ErrNone},
		{masks(15, 15, 15, 15, 15), 5, 1, api.OK}, {masks(14, 15, 15, 15, 15), 5, 1, api.ErrNone}, {masks(15, 15, 15, 15, 15), 6, 1, api.ErrNone}, {masks(35, 36, 37, 38, 39), 5, 2, api.OK}, {masks(39, 38, 37, 36, 34), 5, 2, api.ErrNone}, {masks(1240, 1240, 1240, 1240, 1240), 40, 8, api.OK}, {masks(1240, 1240, 1239, 1240, 1240), 40, 8, api.ErrNone},
		{masks(3, 3, 3, 3, 3, 0), 1, 1, api.OK}, {masks(3, 3, 3, 3, 3, 2, 0, 1), 1, 1, api.OK}, {masks(0, 3, 3, 3, 3, 3), 1, 1, api.ErrNone}, {masks(3, 3, 3, 3, 2, 3), 1, 1, api.ErrNone}, {slices.Repeat(masks(3), 1000), 1, 1, api.OK},
	} {
		l, e := lathe.Spell(x.mask, x.size, x.n)
		ends(t, x, l, e, x.want)
		if e == api.OK && !slices.Equal(l, make([]int, x.n)) {
			t.Error(x, l)
		}
	}
}

// TestRandomWords: P7.5 and P7.10, random words: the mask is as the chapter has it, and the word is spelled from it.
func TestRandomWords(t *testing.T) {
	r := rand.New(rand.NewSource(82))
	for range 3000 {
		size, cols, lines := 1+r.Intn([]int{2, 6, 40}[r.Intn(3)]), 1+r.Intn(40), 5+r.Intn(8)
		word := randomWord(r, r.Intn(min(8, (cols/size+1)/4)+1))
		m, e := lathe.Mask(word, size, cols, lines)
		are(t, word, m, e, maskOf(word, size, cols, lines)...)
		l, e := lathe.Spell(m, size, len(word))
		is(t, word, l, e, word...)
	}
}

// TestRandomSpelling: P7.5, random lists of different lengths.
func TestRandomSpelling(t *testing.T) {
	r := rand.New(rand.NewSource(83))
	for range 3000 {
		size, n := 1+r.Intn([]int{2, 6, 40}[r.Intn(3)]), r.Intn(9)
		var mask [][]bool
		for range 5 + r.Intn(3) {
			mask = append(mask, randomMask(r, 1, max(0, size*(4*n-1))+r.Intn(9))...)
		}
		l, e := lathe.Spell(mask, size, n)
		is(t, mask, l, e, wordOf(mask, size, n)...)
	}
}
