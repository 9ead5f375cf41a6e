package exact

import (
	"iter"
	"slices"
	"strconv"
	"strings"

	"barleycorn/api"
)

const groupDigits = 9

// Text returns the text of a fraction (P1.3).
func Text(a api.Frac) (string, api.Errno) {
	if e := CheckFrac(a); e != api.OK {
		return "", e
	}
	var text strings.Builder
	if a.Num.Neg {
		text.WriteByte('-')
	}
	writeGroups(&text, a.Num.Groups)
	if !fromGroups(a.Den.Groups).isOne() {
		text.WriteByte('/')
		writeGroups(&text, a.Den.Groups)
	}
	return text.String(), api.OK
}

// writeGroups writes a number in decimal.
func writeGroups(text *strings.Builder, groups []uint32) {
	if len(groups) == 0 {
		text.WriteByte('0')
	}
	for i, group := range slices.Backward(groups) {
		digits := strconv.Itoa(int(group))
		if i < len(groups)-1 {
			text.WriteString(strings.Repeat("0", groupDigits-len(digits)))
		}
		text.WriteString(digits)
	}
}

// Parse returns the fraction that has a text (P1.3).
func Parse(s string) (api.Frac, api.Errno) {
	if len(s) > api.MaxText {
		return api.Frac{}, api.ErrMany
	}
	above, neg := strings.CutPrefix(s, "-")
	above, below, hasDen := strings.Cut(above, "/")
	if !hasDen {
		below = "1"
	}
	if !isDecimal(above) || !isDecimal(below) || neg && above == "0" || hasDen && (below == "0" || below == "1") {
		return api.Frac{}, api.ErrForm
	}
	num, den := digitGroups(above), digitGroups(below)
	if !coprime(fromGroups(num), fromGroups(den)) {
		return api.Frac{}, api.ErrForm
	}
	if len(num) > api.MaxGroups || len(den) > api.MaxGroups {
		return api.Frac{}, api.ErrLarge
	}
	return api.Frac{Num: api.Whole{Neg: neg, Groups: num}, Den: api.Whole{Groups: den}}, api.OK
}

// isDecimal reports whether a text is a number in decimal, without leading zeros.
func isDecimal(s string) bool {
	for i := range len(s) {
		if s[i] < '0' || s[i] > '9' {
			return false
		}
	}
	return s == "0" || s != "" && s[0] != '0'
}

// fromLast yields the digits of a number in decimal from the last one on, each with how many come after it.
func fromLast(digits string) iter.Seq2[int, uint32] {
	return func(yield func(int, uint32) bool) {
		for place := range len(digits) {
			if !yield(place, uint32(digits[len(digits)-1-place]-'0')) {
				return
			}
		}
	}
}

// digitGroups returns the groups of a number in decimal.
func digitGroups(digits string) []uint32 {
	if digits == "0" {
		return nil
	}
	groups := make([]uint32, (len(digits)+groupDigits-1)/groupDigits)
	unit := uint32(1)
	for place, digit := range fromLast(digits) {
		if place%groupDigits == 0 {
			unit = 1
		}
		groups[place/groupDigits] += digit * unit
		unit *= 10
	}
	return groups
}
