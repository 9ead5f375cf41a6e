package light_test

import (
	"math/rand"
	"slices"
	"testing"

	"barleycorn/api"
	"barleycorn/light"
)

// TestLatentExamples: P6.4, the chapter's example, and others.
func TestLatentExamples(t *testing.T) {
	yes, no := api.Tilt{X: 3}, api.Tilt{Y: 3}
	l, e := light.Latent([]bool{true, false}, yes, no)
	is(t, "latent", l, e, yes, no)
	shows, e := light.Shows(yes, no, 1, []api.Light{direction(1, 1, 1), direction(1, 0, 1)})
	is(t, "shows", shows, e, 1)
	l, e = light.Latent([]bool{false, false, true, false, true}, yes, no)
	is(t, "latent", l, e, no, no, yes, no, yes)
	l, e = light.Latent([]bool{true, false, true}, yes, yes)
	is(t, "equal tilts", l, e, yes, yes, yes)
	for _, message := range [][]bool{nil, {}} {
		l, e = light.Latent(message, yes, no)
		is(t, "no message", l, e)
	}
}

// TestLatentErrors: P6.4, messages with MaxSide * MaxSide entries and one more, and tilts at their limits and just beyond them; too many entries come first.
func TestLatentErrors(t *testing.T) {
	for n, isFew := range map[int]bool{0: true, 1: true, 575: true, 576: true, 577: false, 5000: false} {
		for _, f := range tiltFields() {
			for v, isValid := range f.around() {
				for which := range 2 {
					tilts := [2]api.Tilt{{X: 1, Y: 2}, {X: 3, Y: 4}}
					*f.field(&tilts[which]) = v
					l, e := light.Latent(make([]bool, n), tilts[0], tilts[1])
					switch {
					case !isFew:
						fails(t, n, l, e, api.ErrMany)
					case !isValid:
						fails(t, []any{n, tilts}, l, e, api.ErrArg)
					default:
						is(t, []any{n, tilts}, l, e, all(n, tilts[1])...)
					}
				}
			}
		}
	}
}

// TestShowsExamples: P6.4, lights that show the image and that do not, in the order of their indices.
func TestShowsExamples(t *testing.T) {
	for _, x := range []struct {
		yes, no api.Tilt
		pitch   int
		lights  []api.Light
		want    []int
	}{
		{api.Tilt{X: 4}, api.Tilt{X: -4}, 2, []api.Light{direction(0, 0, 1), direction(1, 0, 1), direction(0, 5, 1), direction(-1, 3, 2)}, []int{1, 3}},
		{api.Tilt{X: 4}, api.Tilt{X: 4}, 2, []api.Light{direction(0, 0, 1), direction(1, 0, 1), direction(0, 5, 1)}, nil},
		{api.Tilt{X: 8}, api.Tilt{X: 9}, 1, []api.Light{direction(1, 0, 1), direction(-1, 0, 1), direction(0, 0, 1), direction(30, 0, 1)}, []int{1, 2}}, // both are dark where the light comes from behind
		{api.Tilt{X: 5, Y: 1}, api.Tilt{X: 1, Y: 5}, 3, []api.Light{direction(7, 7, 9), direction(-7, -7, 9), direction(7, -7, 9), direction(0, 0, 1)}, []int{2}},
		{api.Tilt{X: 2}, api.Tilt{Y: 2}, 1, all(8, direction(1, -1, 2)), []int{0, 1, 2, 3, 4, 5, 6, 7}},
		{api.Tilt{X: 2}, api.Tilt{Y: 2}, 1, all(8, direction(1, 1, 2)), nil},
	} {
		l, e := light.Shows(x.yes, x.no, x.pitch, x.lights)
		is(t, x, l, e, x.want...)
		l, e = light.Shows(x.no, x.yes, x.pitch, x.lights)
		is(t, x, l, e, x.want...)
	}
}

// TestShowsErrors: P6.4, no light, MaxLights and one more, whatever the others are; then Bright's errors, light by light, for the first tilt and then for the second one.
func TestShowsErrors(t *testing.T) {
	good, bad, up, off := api.Tilt{X: 400}, api.Tilt{Y: 401}, direction(0, 0, 1), direction(0, 0, 31)
	for n, want := range map[int]api.Errno{0: api.ErrMany, 1: api.OK, 2: api.OK, 7: api.OK, 8: api.OK, 9: api.ErrMany, 100: api.ErrMany} {
		l, e := light.Shows(good, good, 1, all(n, up))
		fails(t, n, l, e, want)
		for _, lights := range [][]api.Light{all(n, up), all(n, off)} {
			l, e = light.Shows(bad, good, 1, lights)
			fails(t, n, l, e, max(want, api.ErrArg))
			l, e = light.Shows(good, good, 0, lights)
			fails(t, n, l, e, max(want, api.ErrArg))
		}
	}
	for i, x := range []struct {
		yes, no api.Tilt
		pitch   int
		lights  []api.Light
		want    api.Errno
	}{
		{good, good, 1, []api.Light{up, off}, api.ErrLight},
		{good, good, 1, []api.Light{off, up}, api.ErrLight},
		{good, good, 1, []api.Light{up, off, direction(31, 0, 1), up}, api.ErrLight},
		{good, bad, 1, []api.Light{up}, api.ErrArg},
		{good, bad, 1, []api.Light{off}, api.ErrLight},   // the first tilt with the first light
		{good, bad, 1, []api.Light{up, off}, api.ErrArg}, // the second tilt with the first light
		{good, bad, 1, []api.Light{off, up}, api.ErrLight},
		{bad, good, 1, []api.Light{off}, api.ErrArg},
		{bad, bad, 1, []api.Light{off, off}, api.ErrArg},
		{good, good, 0, []api.Light{off}, api.ErrArg},
		{good, good, 101, []api.Light{off, up}, api.ErrArg},
		{good, bad, 101, []api.Light{off, up}, api.ErrArg},
		{good, good, 100, []api.Light{up, up, up, up, up, up, up, off}, api.ErrLight},
	} {
		l, e := light.Shows(x.yes, x.no, x.pitch, x.lights)
		fails(t, i, l, e, x.want)
	}
	for _, f := range tiltFields() {
		for n, isValid := range f.around() {
			var tilt api.Tilt
			*f.field(&tilt) = n
			_, first := light.Shows(tilt, good, 1, []api.Light{up})
			_, second := light.Shows(good, tilt, 1, []api.Light{up})
			if want := map[bool]api.Errno{true: api.OK, false: api.ErrArg}[isValid]; first != want || second != want {
				t.Error(f.name, n, first, second, "want", want)
			}
		}
	}
}

// TestReadExamples: P6.4, the chapter's example, and others: no shade, one, equal ones, and two and three different ones.
func TestReadExamples(t *testing.T) {
	a, b, c := shade(1, 3), shade(1, 2), shade(2, 3)
	for _, x := range []struct {
		shades []api.Shade
		want   []bool // nil: there are not just two
	}{
		{[]api.Shade{b, a, b}, []bool{true, false, true}},
		{[]api.Shade{a, b}, []bool{false, true}},
		{[]api.Shade{b, a}, []bool{true, false}},
		{[]api.Shade{shade(0, 1), shade(1, 1)}, []bool{false, true}},
		{[]api.Shade{shade(1, 1), shade(0, 1), shade(0, 1)}, []bool{true, false, false}},
		{[]api.Shade{shade(1, 1000000000), shade(0, 1)}, []bool{true, false}},
		{[]api.Shade{shade(999999998, 999999999), shade(999999999, 1000000000)}, []bool{false, true}},
		{[]api.Shade{shade(2, 5), shade(3, 10), shade(2, 5)}, []bool{true, false, true}}, // a greater Num and Den
		{nil, nil}, {[]api.Shade{}, nil}, {[]api.Shade{a}, nil}, {[]api.Shade{shade(0, 1)}, nil}, {[]api.Shade{a, a}, nil}, {all(576, a), nil},
		{[]api.Shade{a, b, c}, nil}, {[]api.Shade{c, b, a, a}, nil}, {[]api.Shade{b, b, a, c}, nil}, {[]api.Shade{a, b, c, shade(1, 1)}, nil},
		{append(all(575, a), b), append(all(575, false), true)},
		{append(all(574, b), a, c), nil},
	} {
		l, e := light.Read(x.shades)
		if x.want == nil {
			fails(t, x.shades, l, e, api.ErrNone)
		} else {
			is(t, x.shades, l, e, x.want...)
		}
	}
}

// TestReadErrors: P6.4, too many shades; shades that are not valid, or not in lowest terms, wherever they are; in the order in which the errors are named.
func TestReadErrors(t *testing.T) {
	for n, want := range map[int]api.Errno{575: api.ErrNone, 576: api.ErrNone, 577: api.ErrMany, 5000: api.ErrMany} {
		l, e := light.Read(all(n, shade(1, 2)))
		fails(t, n, l, e, want)
		l, e = light.Read(all(n, shade(2, 4)))
		fails(t, n, l, e, map[bool]api.Errno{true: api.ErrArg, false: api.ErrMany}[n <= 576])
	}
	good := []api.Shade{shade(1, 2), shade(1, 3), shade(1, 2)}
	for _, bad := range []api.Shade{
		shade(2, 4), shade(0, 2), shade(2, 2), shade(500000000, 1000000000), shade(3, 2), shade(2, 1), shade(-1, 2), shade(1, 0), shade(0, 0), {}, shade(1, -2), shade(-1, -2), shade(0, -1),
		shade(1, 1000000001), shade(1000000000, 1000000001), shade(leastInt, 1), shade(1, greatestInt), shade(greatestInt, greatestInt), shade(leastInt, leastInt), shade(1, leastInt), shade(6, 9), shade(14, 21),
	} {
		for i := range len(good) + 1 {
			l, e := light.Read(slices.Insert(slices.Clone(good), i, bad))
			fails(t, bad, l, e, api.ErrArg)
		}
		l, e := light.Read([]api.Shade{bad})
		fails(t, bad, l, e, api.ErrArg)
		l, e = light.Read(append(all(576, shade(1, 2)), bad))
		fails(t, bad, l, e, api.ErrMany)
	}
	for _, fine := range []api.Shade{shade(0, 1), shade(1, 1), shade(1, 1000000000), shade(999999999, 1000000000), shade(5, 9), shade(14, 25)} {
		l, e := light.Read(append(slices.Clone(good[:1]), fine))
		is(t, fine, l, e, light.Compare(fine, good[0]) < 0, light.Compare(fine, good[0]) > 0)
	}
}

// TestLatentImages: P6.9, a latent image is read as its message, or as its opposite, in each light in which it shows, if it has yes and no; and in no other light.
func TestLatentImages(t *testing.T) {
	r := rand.New(rand.NewSource(114))
	read, opposite, hidden := 0, 0, 0
	for i := range 3000 {
		yes, no, pitch := randomTilt(r), randomTilt(r), 1+r.Intn([]int{2, 100}[i%2])
		if i%3 == 0 {
			no = api.Tilt{X: yes.Y, Y: yes.X}
		}
		message := make([]bool, 1+r.Intn(20))
		for k := range message {
			message[k] = r.Intn(3) == 0
		}
		image, e := light.Latent(message, yes, no)
		image = must(t, image, e)
		var lights []api.Light
		for range 1 + r.Intn(8) {
			lights = append(lights, randomLight(r))
		}
		shows, e := light.Shows(yes, no, pitch, lights)
		shows = must(t, shows, e)
		if !slices.IsSorted(shows) || len(slices.Compact(slices.Clone(shows))) != len(shows) {
			t.Fatal(shows)
		}
		for k, l := range lights {
			var shades []api.Shade
			for _, tilt := range image {
				s, e := light.Bright(tilt, pitch, l)
				shades = append(shades, must(t, s, e))
			}
			isShown := cosine(yes, pitch, l).Cmp(cosine(no, pitch, l)) != 0
			if isShown != slices.Contains(shows, k) {
				t.Fatal(yes, no, pitch, l, shows, k)
			}
			got, e := light.Read(shades)
			switch {
			case !isShown || count(message, true) == 0 || count(message, false) == 0:
				fails(t, l, got, e, api.ErrNone)
				hidden++
			case slices.Equal(must(t, got, e), message):
				read++
			default:
				for k := range got {
					got[k] = !got[k]
				}
				is(t, l, got, e, message...)
				opposite++
			}
		}
	}
	if read < 1000 || opposite < 1000 || hidden < 1000 {
		t.Error(read, opposite, hidden)
	}
}

// TestEvenLights: P6.9, with the tilts (t, 0) and (0, t) an image does not show if the light's X and Y are equal.
func TestEvenLights(t *testing.T) {
	shown := 0
	for tilt := -400; tilt <= 400; tilt += 16 {
		yes, no := api.Tilt{X: tilt}, api.Tilt{Y: tilt}
		for x := -30; x <= 30; x += 5 {
			for _, pitch := range []int{1, 30, 100} {
				even := []api.Light{direction(x, x, 1), direction(x, x, 7), direction(x, x, 30)}
				l, e := light.Shows(yes, no, pitch, even)
				is(t, []any{tilt, x, pitch}, l, e)
				l, e = light.Shows(yes, no, pitch, []api.Light{direction(x, 7, 30)})
				shown += len(must(t, l, e))
			}
		}
	}
	if shown < 200 {
		t.Error(shown)
	}
}
