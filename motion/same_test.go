package motion

import (
	"math/big"
	"math/rand"
	"slices"
	"testing"

	"barleycorn/api"
)

const anyHow = api.SameSense | api.SameTurned | api.SameMirror

// TestSame: P2.4, for the chapter's examples, and for changes that only some how allow: those in the string of an example.
func TestSame(t *testing.T) {
	for _, x := range []struct{ p, q, how string }{
		{hypocycloid, hypocycloid, "01234567"},
		{hypocycloid, "-2 0 100, 1 200 0", "2367"},
		{hypocycloid, "-4 100 0, 2 200 0", "01234567"},
		{hypocycloid, "-64 100 0, 32 200 0", "01234567"},
		{hypocycloid, "-1 200 0, 2 100 0", "134567"},
		{hypocycloid, "-2 100 0", ""},
		{hypocycloid, "-2 100 0, 1 200 0, 2 1 0", ""},
		{hypocycloid, "-2 100 0, 1 201 0", ""},
		{hypocycloid, "-2 200 0, 1 100 0", ""},
		{hypocycloid, "-2 100 0, 2 200 0", ""},
		// v = i: v^-2 is -1, and v is i.
		{hypocycloid, "-2 -100 0, 1 0 200", "01234567"},
		{"", "", "01234567"},
		{"", "0 1 0", ""},
		{"0 3 4", "0 3 4", "01234567"},
		{"0 3 4", "0 3 -4", "234567"},
		{"0 3 4", "0 5 0", "2367"},
		{"0 3 4", "0 6 0", ""},
		{"0 3 4", "1 3 4", ""},
		{"0 1 0", "0 -1 0", "2367"},
		{"5 3 4", "1 0 5", "01234567"},
		{"5 3 4", "-1 0 5", "134567"},
		{"5 3 4", "-64 0 5", "134567"},
		{"1 5 0", "1 6 0", ""},
		// Only c * v^K: v is a root of i, and its square is enough.
		{"1 1 0, 3 1 0", "1 1 0, 3 0 1", "2367"},
		{"1 1 0, 3 1 0", "1 1 0, 3 -1 0", "2367"},
		{"1 1 0, 2 1 0", "1 1 0, 2 0 1", "2367"},
		{"1 1 0, 2 1 0, 3 1 0", "1 1 0, 2 1 0, 3 0 1", ""},
		{"1 1 0, 2 1 0, 3 1 0", "1 1 0, 2 0 1, 3 -1 0", "2367"},
		{"1 1 0, 2 1 0, 3 1 0", "1 0 1, 2 -1 0, 3 0 -1", "01234567"},
		// K = 0 does not turn by v.
		{"0 1 0, 1 1 0", "0 1 0, 1 0 1", "01234567"},
		{"0 1 0, 1 1 0", "0 0 1, 1 1 0", "2367"},
		{"0 3 4, 1 1 0", "0 3 -4, 1 1 0", "23567"},
		{"0 3 4, 1 1 0, 2 1 1", "0 3 -4, 1 1 0, 2 1 1", ""},
		// With K 2, 3: v is w3 / w2, and has to give both.
		{"2 1 0, 3 1 0", "2 -7/25 24/25, 3 -117/125 44/125", "01234567"},
		{"2 1 0, 3 1 0", "2 -7/25 24/25, 3 -117/125 -44/125", "2367"},
		{"2 5 0, 3 5 0", "2 3 4, 3 5 0", "2367"},
		// With the sense and the mirror together K stay, and C are mirrored.
		{"1 5 0, 2 3 0, 4 1 2", "1 5 0, 2 3 0, 4 1 -2", "57"},
		{"1 5 0, 2 3 0, 4 1 2", "-4 1 2, -2 3 0, -1 5 0", "1357"},
		{"1 5 0, 2 3 0, 4 1 2", "-4 1 -2, -2 3 0, -1 5 0", "4567"},
		{"1 5 0, 2 3 0, 4 1 2", "1 0 5, 2 0 3, 4 -2 1", "2367"},
		{"1 5 0, 2 3 0, 4 1 2", "1 0 5, 2 0 3, 4 2 1", "7"},
		{"1 5 0, 2 3 0, 4 1 2", "-4 -2 1, -2 0 3, -1 0 5", "37"},
		{"1 5 0, 2 3 0, 4 1 2", "-4 2 1, -2 0 3, -1 0 5", "67"},
	} {
		p, q := path(t, x.p), path(t, x.q)
		for how := range uint8(8) {
			want := slices.Contains([]byte(x.how), '0'+how)
			if is, e := Same(p, q, how); is != want || e != api.OK {
				t.Error(x, how, is, e)
			}
			if is, e := Same(q, p, how); is != want || e != api.OK {
				t.Error(x, how, is, e, "from the other side")
			}
		}
	}
}

// TestSameErrors: P2.4, ErrArg unless how is at most 7, before ErrLarge.
func TestSameErrors(t *testing.T) {
	p, large := path(t, hypocycloid), path(t, "1 1000000000 0")
	for how, want := range map[uint8]api.Errno{0: api.OK, 7: api.OK, 8: api.ErrArg, 9: api.ErrArg, 128: api.ErrArg, 255: api.ErrArg} {
		if is, e := Same(p, p, how); e != want || is != (e == api.OK) {
			t.Error(how, is, e)
		}
	}
	if is, e := Same(large, large, 8); e != api.ErrArg || is {
		t.Error(is, e)
	}
	for _, pair := range [][2][]api.Arm{{large, p}, {p, large}, {large, large}} {
		if is, e := Same(pair[0], pair[1], 7); e != api.ErrLarge || is {
			t.Error(is, e)
		}
	}
}

// sameByPairs reports whether two paths draw the same curve, by all pairs of arms: v^a is w and v^b is z for one v exactly if w^b is z^a for each pair (a and b without what divides both).
func sameByPairs(t *testing.T, p, q []api.Arm, how uint8) bool {
	t.Helper()
	type arms map[int]gauss
	read := func(p []api.Arm) arms {
		common, all := new(big.Int), arms{}
		for _, a := range p {
			common.GCD(nil, nil, common, new(big.Int).Abs(big.NewInt(int64(a.K))))
		}
		by := max(int(common.Int64()), 1)
		for _, a := range p {
			all[a.K/by] = big2(t, a.C)
		}
		return all
	}
	from, to := read(p), read(q)
	for change := range uint8(8) {
		if change&how != change {
			continue
		}
		changed := arms{}
		for k, c := range from {
			if change&api.SameMirror != 0 {
				k, c = -k, c.mirrored()
			}
			if change&api.SameSense != 0 {
				k = -k
			}
			changed[k] = c
		}
		if agree(changed, to, change&api.SameTurned != 0) {
			return true
		}
	}
	return false
}

// agree reports whether some C are others times v^K, or c * v^K.
func agree(from, to map[int]gauss, turned bool) bool {
	if len(from) != len(to) {
		return false
	}
	var ks []int
	w := map[int]gauss{}
	for k, c := range from {
		goal, ok := to[k]
		if !ok || goal.norm().Cmp(c.norm()) != 0 {
			return false
		}
		ks = append(ks, k)
		w[k] = goal.over(c)
	}
	slices.Sort(ks)
	base, start := 0, small(1, 0)
	if turned && len(ks) > 0 {
		base, start = ks[0], w[ks[0]]
	}
	for _, k := range ks {
		for _, m := range ks {
			a, b := k-base, m-base
			if g := int(new(big.Int).GCD(nil, nil, new(big.Int).Abs(big.NewInt(int64(a))), new(big.Int).Abs(big.NewInt(int64(b)))).Int64()); g > 0 {
				a, b = a/g, b/g
			} else if !w[k].over(start).equals(small(1, 0)) {
				return false
			}
			if !w[k].over(start).power(b).equals(w[m].over(start).power(a)) {
				return false
			}
		}
	}
	return true
}

// altered returns what a path becomes by some changes.
func altered(t *testing.T, p []api.Arm, how uint8, v, c gauss) []api.Arm {
	t.Helper()
	var q []api.Arm
	for _, a := range p {
		k, z := a.K, big2(t, a.C).times(v.power(a.K))
		if how&api.SameTurned != 0 {
			z = z.times(c)
		}
		if how&api.SameMirror != 0 {
			k, z = -k, z.mirrored()
		}
		if how&api.SameSense != 0 {
			k = -k
		}
		q = append(q, api.Arm{K: k, C: z.given(t)})
	}
	slices.SortFunc(q, func(a, b api.Arm) int { return a.K - b.K })
	return q
}

// faster returns a path whose K are some times those of a path.
func faster(p []api.Arm, by int) []api.Arm {
	q := slices.Clone(p)
	for i := range q {
		q[i].K *= by
	}
	return q
}

// TestSameByPairs: P2.4, Same is what a second way gives, for paths that were changed, and for such with one arm that is wrong.
func TestSameByPairs(t *testing.T) {
	r := rand.New(rand.NewSource(6))
	same, others := 0, 0
	for range 1500 {
		p := randomPath(t, r, 4, 5)
		q := altered(t, p, uint8(r.Intn(8)), unit(r), unit(r))
		if len(q) > 0 && r.Intn(3) == 0 {
			i := r.Intn(len(q))
			q[i].C = big2(t, q[i].C).times(unit(r)).given(t)
		}
		q = faster(q, 1+r.Intn(4))
		how := uint8(r.Intn(8))
		if !isPlain(q) {
			continue
		}
		want := sameByPairs(t, p, q, how)
		if want {
			same++
		} else {
			others++
		}
		if is, e := Same(p, q, how); is != want || e != api.OK {
			t.Fatal(pathText(t, p), "and", pathText(t, q), how, is, e)
		}
	}
	if same < 200 || others < 200 {
		t.Error("the test needs other paths:", same, others)
	}
}

// TestSameRules: P2.8, to draw the same curve is the same from either side, carries over, and holds with more that may differ; a path draws the same curve as itself.
func TestSameRules(t *testing.T) {
	r := rand.New(rand.NewSource(7))
	for range 150 {
		p := randomPath(t, r, 5, 5)
		q := altered(t, p, uint8(r.Intn(8)), unit(r), unit(r))
		s := altered(t, q, uint8(r.Intn(8)), unit(r), small(0, 1))
		if !isPlain(q) || !isPlain(s) {
			continue
		}
		var is [8][3]bool
		for how := range uint8(8) {
			for i, pair := range [3][2][]api.Arm{{p, q}, {q, s}, {p, s}} {
				one, e := Same(pair[0], pair[1], how)
				must(t, one, e)
				two, e := Same(pair[1], pair[0], how)
				if must(t, two, e) != one {
					t.Fatal(pathText(t, pair[0]), "and", pathText(t, pair[1]), how, "differ from the other side")
				}
				is[how][i] = one
			}
			if is[how][0] && is[how][1] && !is[how][2] {
				t.Fatal("does not carry over", how, pathText(t, p), "and", pathText(t, q), "and", pathText(t, s))
			}
			if self, e := Same(p, p, how); !self || e != api.OK {
				t.Fatal(pathText(t, p), how, self, e)
			}
		}
		if is[7] != [3]bool{true, true, true} {
			t.Fatal(pathText(t, p), "and", pathText(t, q), "and", pathText(t, s), is[7])
		}
		for how, some := range is {
			for more, all := range is {
				for i := range 3 {
					if how&more == how && some[i] && !all[i] {
						t.Fatal("lost with more that may differ", how, more)
					}
				}
			}
		}
	}
}

// TestLongestSame: P2.4, paths whose C have as many digits as there may be, and whose K are far apart, so that v is found from high powers only.
func TestLongestSame(t *testing.T) {
	var p, q, wrong []api.Arm
	for i, k := range []int{-64, -63, -20, 0, 7, 63, 64} {
		c := gauss{big.NewRat(999999937, 1), big.NewRat(int64(999999929-i), 1)}
		p = append(p, api.Arm{K: k, C: c.given(t)})
		q = append(q, api.Arm{K: k, C: c.times(small(0, 1).power(k)).given(t)})
		wrong = append(wrong, api.Arm{K: k, C: c.times(small(0, 1).power(k * k)).given(t)})
	}
	for how := range uint8(8) {
		if is, e := Same(p, q, how); !is || e != api.OK {
			t.Error(how, is, e)
		}
		if is, e := Same(p, wrong, how); is || e != api.OK {
			t.Error(how, is, e)
		}
	}
	// 5^11 is the highest power of 5 that the Den of a plain path can have.
	v := unitOf(1, 2)
	near := path(t, "1 5 0, 2 3 0, 11 1 2")
	far := altered(t, near, 0, v, small(1, 0))
	if is, e := Same(near, far, 0); !is || e != api.OK {
		t.Error(is, e)
	}
	far[2].C = v.power(11).mirrored().times(small(1, 2)).given(t)
	if is, e := Same(near, far, anyHow); is || e != api.OK {
		t.Error(is, e)
	}
}

// TestContradictions: P2.4, demands on v that contradict each other, where powers or quotients become too large.
func TestContradictions(t *testing.T) {
	for _, ks := range [][]int{{0, 1, 2}, {0, 1, 5}, {0, 1, 6}, {0, 1, 7}, {1, 10, 13}, {1, 11, 13}, {1, 12, 13}, {-64, 1, 63, 64}, {-64, -63, 64}} {
		var p, q []api.Arm
		for i, k := range ks {
			// The quotients of these numbers and their mirrored ones have so many digits that an 11th power is not too large, but one more factor is.
			c := gauss{big.NewRat(int64(999999937-i), 1), big.NewRat(int64(999999929-3*i), 3000017)}
			p = append(p, api.Arm{K: k, C: c.given(t)})
			q = append(q, api.Arm{K: k, C: c.mirrored().given(t)})
		}
		for how := range uint8(8) {
			want := how&api.SameSense != 0 && how&api.SameMirror != 0
			if is, e := Same(p, q, how); is != want || e != api.OK {
				t.Error(ks, how, is, e)
			}
		}
	}
}

// TestMirrors: P2.4, paths with mirrors and without.
func TestMirrors(t *testing.T) {
	for texts, want := range map[string]bool{
		"":                                true,
		"0 3 4":                           true,
		"5 3 4":                           true,
		hypocycloid:                       true,
		"1 5 0, 2 3 0, 4 1 2":             false,
		"1 5 0, 2 3 0, 4 1 0":             true,
		"1 5 0, 2 3 0, 4 0 1":             false,
		"1 5 0, 2 0 3, 3 0 1":             false,
		"1 5 0, 2 0 3, 3 1 0":             true,
		"1 1 0, 3 3 4, 5 3 1":             false,
		"1 3 4, 2 5 1":                    true,
		"-64 3 4, 64 5 1":                 true,
		"-4 30 0, 1 400 0, 6 30 0":        true,
		"-4 0 30, 1 400 0, 6 30 0":        false,
		"-4 0 30, 1 400 0, 6 0 30":        true,
		"0 1 2, 1 5 0, 2 3 0, 3 4 4":      false,
		"0 1 999999999, 1 1 0, 64 1 -999": false,
	} {
		if is, e := Mirrors(path(t, texts)); is != want || e != api.OK {
			t.Error(texts, is, e)
		}
	}
}

// TestMirrorsByPairs: P2.4, Mirrors is what the definition says, by the second way for Same, for paths that are turned and begin elsewhere, too (P2.10).
func TestMirrorsByPairs(t *testing.T) {
	r := rand.New(rand.NewSource(8))
	with := 0
	for range 400 {
		p := randomPath(t, r, 4, 5)
		want := sameByPairs(t, p, altered(t, p, api.SameMirror, small(1, 0), small(1, 0)), api.SameSense|api.SameTurned)
		if want {
			with++
		}
		for _, q := range [][]api.Arm{p, altered(t, p, uint8(r.Intn(8)), unit(r), unit(r))} {
			if is, e := Mirrors(q); isPlain(q) && (is != want || e != api.OK) {
				t.Fatal(pathText(t, q), is, e)
			}
		}
	}
	if with < 50 || with > 350 {
		t.Error("the test needs other paths:", with)
	}
}
