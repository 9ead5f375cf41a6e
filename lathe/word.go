package lathe

import "barleycorn/api"

const (
	glyphRows  = 5
	glyphCells = 3 // of a row
	maxGlyph   = 1<<(glyphRows*glyphCells) - 1
	glyphStep  = glyphCells + 1 // cells from one glyph to the next one
)

// Mask returns the mask of a word (P7.5).
func Mask(word []int, size, cols, lines int) ([][]bool, api.Errno) {
	if len(word) > api.MaxWord {
		return nil, api.ErrMany
	}
	if !areWithin(0, maxGlyph, word...) || !areWithin(1, api.MaxCols, size, cols) || !areWithin(1, api.MaxLines, lines) {
		return nil, api.ErrArg
	}
	if lines < glyphRows || width(len(word), size) > cols {
		return nil, api.ErrNone
	}
	mask := make([][]bool, lines)
	for r := range mask {
		mask[r] = make([]bool, cols)
	}
	for g, glyph := range word {
		for r, row := range rowsOf(glyph) {
			for k := range glyphCells {
				fill(cell(mask[r], size, g, k), row>>(glyphCells-1-k)&1 == 1)
			}
		}
	}
	return mask, api.OK
}

// Spell returns the glyphs that a mask says (P7.5).
func Spell(mask [][]bool, size, n int) ([]int, api.Errno) {
	if !areWithin(1, api.MaxCols, size) || !areWithin(0, api.MaxWord, n) {
		return nil, api.ErrArg
	}
	isLong := func(l []bool) bool { return len(l) >= width(n, size) }
	if len(mask) < glyphRows || !areAll(mask[:glyphRows], isLong) {
		return nil, api.ErrNone
	}
	word := make([]int, n)
	for g := range word {
		for _, row := range mask[:glyphRows] {
			for k := range glyphCells {
				word[g] <<= 1
				if isMostly(cell(row, size, g, k)) {
					word[g]++
				}
			}
		}
	}
	return word, api.OK
}

// width returns how many columns a word of n glyphs needs: there is no gap behind the last one.
func width(n, size int) int { return size * (glyphStep*n - 1) }

// rowsOf returns the bits of each row of a glyph.
func rowsOf(glyph int) (rows [glyphRows]int) {
	for r := range rows {
		rows[r] = glyph >> (glyphCells * (glyphRows - 1 - r)) & (1<<glyphCells - 1)
	}
	return rows
}

// cell returns the columns of a row of a mask in which a cell of a glyph is.
func cell(row []bool, size, glyph, k int) []bool {
	from := size * (glyphStep*glyph + k)
	return row[from : from+size]
}

// fill changes all columns of a cell.
func fill(cell []bool, is bool) {
	for col := range cell {
		cell[col] = is
	}
}

// isMostly reports whether more than half of the columns of a cell are yes.
func isMostly(cell []bool) bool {
	yes := 0
	for _, is := range cell {
		if is {
			yes++
		}
	}
	return 2*yes > len(cell)
}
