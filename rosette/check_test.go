package rosette

import (
	"testing"

	"barleycorn/api"
)

// TestCheck: P3.1, what a rosette is: how many heights it has, and in which range they are.
func TestCheck(t *testing.T) {
	for _, f := range [][]int{all(api.MinSteps, 0), all(api.MaxSteps, api.MaxRise), {0, 1, api.MaxRise}, {api.MaxRise, 0, 5, 7}} {
		if e := Check(f); e != api.OK {
			t.Error(f, e)
		}
	}
	for _, f := range [][]int{nil, {}, {0}, all(api.MinSteps-1, 0), all(api.MaxSteps+1, 0), all(1000, 0)} {
		if e := Check(f); e != api.ErrRosette {
			t.Error(f, e)
		}
	}
	for p := range 5 {
		for _, h := range []int{-1, api.MaxRise + 1, leastInt, greatestInt} {
			if e := Check(with(all(5, 3), p, h)); e != api.ErrRosette {
				t.Error(p, h, e)
			}
		}
		for _, h := range []int{0, api.MaxRise} {
			if e := Check(with(all(5, 3), p, h)); e != api.OK {
				t.Error(p, h, e)
			}
		}
	}
}

// TestCheckRubber: P3.1, what a rubber is for any number of steps.
func TestCheckRubber(t *testing.T) {
	for _, x := range []struct {
		b    []int
		n    int
		want api.Errno
	}{
		{[]int{0}, 1, api.OK}, {[]int{0}, 3, api.OK}, {[]int{0}, greatestInt, api.OK},
		{[]int{0}, 0, api.ErrRubber}, {[]int{0}, -1, api.ErrRubber}, {[]int{0}, leastInt, api.ErrRubber},
		{[]int{1}, 3, api.ErrRubber}, {nil, 3, api.ErrRubber}, {[]int{}, 0, api.ErrRubber}, {nil, -2, api.ErrRubber},
		{[]int{0, 0}, 3, api.ErrRubber}, {[]int{0, 0, 0, 0}, 96, api.ErrRubber},
		{[]int{1, 0, 2}, 3, api.OK}, {[]int{1, 0, 2}, 2, api.ErrRubber}, {[]int{1, 0, 2}, 4, api.OK},
		{[]int{0, 1, 0}, 3, api.ErrRubber}, {[]int{0, 0, 1, 0, 0}, 9, api.ErrRubber}, {[]int{4, 3, 0, 9, 9}, 9, api.OK},
		{all(5, 0), 5, api.OK}, {all(5, 0), 4, api.ErrRubber}, {all(7, 0), 6, api.ErrRubber},
		{all(api.MaxRubber, 0), api.MaxRubber, api.OK}, {all(api.MaxRubber, 0), api.MaxSteps, api.OK}, {all(api.MaxRubber, 0), api.MaxRubber - 1, api.ErrRubber},
		{all(api.MaxRubber+1, 0), api.MaxSteps, api.ErrRubber}, {all(api.MaxRubber+2, 0), api.MaxSteps, api.ErrRubber}, {all(api.MaxRubber+2, 0), greatestInt, api.ErrRubber},
		{[]int{api.MaxRise, 0, api.MaxRise}, 3, api.OK}, {[]int{api.MaxRise + 1, 0, 0}, 3, api.ErrRubber}, {[]int{0, 0, api.MaxRise + 1}, 3, api.ErrRubber},
		{[]int{-1, 0, 0}, 3, api.ErrRubber}, {[]int{0, 0, -1}, 3, api.ErrRubber}, {[]int{0, -1, 0}, 3, api.ErrRubber},
		{[]int{leastInt, 0, 0}, 3, api.ErrRubber}, {[]int{0, 0, greatestInt}, 3, api.ErrRubber},
	} {
		if e := CheckRubber(x.b, x.n); e != x.want {
			t.Error(x, e)
		}
	}
}

// withRubber returns the errors of all functions of a rosette with a rubber, by their names.
func withRubber(f, b []int, p int) map[string]api.Errno {
	errors := map[string]api.Errno{}
	for name, call := range map[string]func(f, b []int) ([]int, api.Errno){"Lift": Lift, "Under": Under, "Close": Close, "Grind": Grind, "Find": Find, "Needed": Needed} {
		_, errors[name] = call(f, b)
	}
	_, errors["Count"] = Count(f, b)
	_, errors["Contacts"] = Contacts(f, b, p)
	return errors
}

// TestErrors: P3.1, P3.3 and P3.4, the order of the errors of the functions with a rubber, also where several of them apply.
func TestErrors(t *testing.T) {
	good, rubber, nine := all(9, 4), []int{1, 0, 1}, all(api.MaxCount+2, 0)
	for _, x := range []struct {
		f, b []int
		p    int
		want api.Errno
	}{
		{good, rubber, 0, api.OK},
		{nil, nil, -1, api.ErrRosette}, {[]int{1, 2}, rubber, 0, api.ErrRosette}, {[]int{1, 2}, []int{1}, 2, api.ErrRosette},
		{with(good, 8, -1), nine, 9, api.ErrRosette}, {with(good, 0, api.MaxRise+1), []int{0, 0}, 0, api.ErrRosette}, {all(97, 0), rubber, 0, api.ErrRosette},
		{good, nil, 0, api.ErrRubber}, {good, []int{0, 0}, -1, api.ErrRubber}, {good, []int{0, 1, 0}, 9, api.ErrRubber},
		{good, all(11, 0), 0, api.ErrRubber}, {good, all(33, 0), greatestInt, api.ErrRubber}, {[]int{1, 2, 3}, all(5, 0), 0, api.ErrRubber}, {all(96, 0), all(33, 0), 0, api.ErrRubber},
	} {
		for name, e := range withRubber(x.f, x.b, x.p) {
			if e != x.want {
				t.Error(name, x, e)
			}
		}
	}
}

// TestErrorsOfRosettes: P3.1, the errors of the functions with rosettes alone, of f and then of g.
func TestErrorsOfRosettes(t *testing.T) {
	for _, f := range [][]int{nil, {1, 2}, all(97, 0), {0, -1, 0}, {0, 0, api.MaxRise + 1}} {
		_, turned := Turned(f, 1)
		_, mirrored := Mirrored(f)
		_, period := Period(f)
		_, axes := Axes(f)
		_, first := Match(f, []int{1, 2, 3})
		_, second := Match([]int{1, 2, 3}, f)
		_, both := Match(f, f)
		for i, e := range []api.Errno{turned, mirrored, period, axes, first, second, both} {
			if e != api.ErrRosette {
				t.Error(i, f, e)
			}
		}
	}
}
