package exact

import (
	"math/rand"
	"reflect"
	"strings"
	"testing"

	"barleycorn/api"
)

// TestText: P1.3, groups are filled up with zeros, but for the last one.
func TestText(t *testing.T) {
	whole := func(neg bool, groups ...uint32) api.Whole { return api.Whole{Neg: neg, Groups: groups} }
	for want, a := range map[string]api.Frac{
		"0":                              {Den: whole(false, 1)},
		"7":                              {Num: whole(false, 7), Den: whole(false, 1)},
		"-1000000000":                    {Num: whole(true, 0, 1), Den: whole(false, 1)},
		"12000000347/1000000000":         {Num: whole(false, 347, 12), Den: whole(false, 0, 1)},
		"-1/2000000000000000003":         {Num: whole(true, 1), Den: whole(false, 3, 0, 2)},
		"100000000/999999999":            {Num: whole(false, 100000000), Den: whole(false, 999999999)},
		"1/1000000001":                   {Num: whole(false, 1), Den: whole(false, 1, 1)},
		"-" + nines(360) + "/1" + tens(): {Num: whole(true, full()...), Den: whole(false, tenGroups()...)},
	} {
		if got, e := Text(a); e != api.OK || got != want {
			t.Errorf("%v gives %s %d, want %s", a, got, e, want)
		}
	}
}

// full returns the groups of the greatest number.
func full() []uint32 {
	groups := make([]uint32, api.MaxGroups)
	for i := range groups {
		groups[i] = 999999999
	}
	return groups
}

// tenGroups returns the groups of 10^351.
func tenGroups() []uint32 {
	groups := make([]uint32, api.MaxGroups)
	groups[api.MaxGroups-1] = 1
	return groups
}

// tens returns the zeros of 10^351.
func tens() string { return strings.Repeat("0", 351) }

// TestParseForm: P1.3, what is no text of a fraction.
func TestParseForm(t *testing.T) {
	long := strings.Repeat("2", 398)
	for _, s := range []string{"4/6", "3/1", "-0", "007", "", "-", "/", "-/", "1/", "/2", "-/2", "1/-2", "1/0", "+1", "1 ", " 1", "0/2", "0/1", "1/2/3", "1//2",
		"--1", "1-", "-00", "00", "01", "1/02", "01/2", "1/00", "1e3", "1.5", "0x1", "1_000", "\x00", "1\x00", "١", "１", "-4/6", "-3/1",
		"a", "1/a", ":", "/:", "1/2 ", "\n1", long + "/" + long + "2", long + "/2", long + "00/1", "-" + long + "/4", strings.Repeat("0", 800), "00" + nines(700), "-" + strings.Repeat("x", 799)} {
		if a, e := Parse(s); e != api.ErrForm || !reflect.DeepEqual(a, api.Frac{}) {
			t.Errorf("%.40q gives %v %d", s, a, e)
		}
	}
}

// TestParseLength: P1.3, MaxText before the form, and the form before the size.
func TestParseLength(t *testing.T) {
	for s, want := range map[string]api.Errno{
		nines(360): api.OK, "-" + nines(360): api.OK, "1/" + nines(360): api.OK, nines(360) + "/" + nines(359) + "8": api.OK,
		nines(361): api.ErrLarge, tenTo(360): api.ErrLarge, tenTo(359): api.OK, "-" + tenTo(360): api.ErrLarge,
		"1/" + nines(361): api.ErrLarge, "1/" + tenTo(360): api.ErrLarge, "-3/" + tenTo(360): api.ErrLarge, "5/" + tenTo(360): api.ErrForm,
		nines(800): api.ErrLarge, nines(801): api.ErrMany, "-" + nines(799): api.ErrLarge, "-" + nines(800): api.ErrMany,
		nines(399) + "/" + nines(398) + "60": api.ErrForm, nines(400) + "/" + tenTo(398): api.ErrLarge, nines(400) + "/" + tenTo(399): api.ErrMany,
		strings.Repeat("x", 800): api.ErrForm, strings.Repeat("x", 801): api.ErrMany, strings.Repeat("0", 801): api.ErrMany,
	} {
		if a, e := Parse(s); e != want || (e != api.OK && !reflect.DeepEqual(a, api.Frac{})) {
			t.Errorf("%.10s... (%d bytes) gives %d, want %d", s, len(s), e, want)
		}
	}
}

// TestTextAndParse: P1.8, each undoes the other.
func TestTextAndParse(t *testing.T) {
	r := rand.New(rand.NewSource(6))
	for range 1000 {
		want := randomRat(r, 1+r.Intn(360), 1+r.Intn(360)).RatString()
		a, e := Parse(want)
		if got := text(t, must(t, a, e)); got != want {
			t.Fatal(got, want)
		}
		again, e := Parse(text(t, a))
		if !reflect.DeepEqual(must(t, again, e), a) {
			t.Fatal(again, a)
		}
		if e := CheckFrac(a); e != api.OK {
			t.Fatal(want, e)
		}
	}
	a, e := Parse("0")
	if !reflect.DeepEqual(must(t, a, e), FromInt(0)) {
		t.Error(a)
	}
}
