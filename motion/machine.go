package motion

import (
	"barleycorn/api"
	"barleycorn/exact"
)

// CheckMachine returns an error unless a list is a machine (P2.1).
func CheckMachine(m []api.Setting) api.Errno {
	if len(m) > api.MaxSettings {
		return api.ErrMany
	}
	for _, s := range m {
		if !isSetting(s) {
			return api.ErrMachine
		}
	}
	return api.OK
}

// isSetting reports whether a setting is valid.
func isSetting(s api.Setting) bool {
	noRatio := s.Num == 0 && s.Den == 0
	ratio := s.Num >= -api.MaxRatio && s.Num <= api.MaxRatio && s.Den >= 1 && s.Den <= api.MaxRatio
	number := exact.CheckTurn(s.C) == api.OK
	switch s.Kind {
	case api.SetSlide:
		return noRatio && number
	case api.SetSpindle:
		return ratio && isBlank(s.C)
	case api.SetArm, api.SetSwing:
		return ratio && number
	case api.SetOver:
		return noRatio && isBlank(s.C)
	case api.SetScale:
		return noRatio && number && !isZero(s.C)
	}
	return false
}

// isBlank reports whether a field that is not named is 0: all zero values, so that it is no valid number.
func isBlank(c api.Turn) bool {
	for _, n := range []api.Whole{c.X.Num, c.X.Den, c.Y.Num, c.Y.Den} {
		if n.Neg || len(n.Groups) > 0 {
			return false
		}
	}
	return true
}

// Draw returns the path of a machine, and after how many turns it closes (P2.2).
func Draw(m []api.Setting) (p []api.Arm, turns api.Frac, e api.Errno) {
	if e := CheckMachine(m); e != api.OK {
		return nil, api.Frac{}, e
	}
	s := drawn(m)
	if s.e != api.OK {
		return nil, api.Frac{}, s.e
	}
	turns = s.closing()
	for _, t := range s.list {
		// What is too large for Nearest is outside of all limits.
		k, e := exact.Nearest(sure(exact.Mul(t.x, turns)))
		if e != api.OK || k < -api.MaxK || k > api.MaxK {
			return nil, api.Frac{}, api.ErrMany
		}
		p = append(p, api.Arm{K: k, C: t.c})
	}
	return p, turns, api.OK
}

// drawn returns what a valid machine draws.
func drawn(m []api.Setting) sum {
	effects := map[uint8]func(*sum, api.Setting){
		api.SetSlide:   (*sum).slide,
		api.SetSpindle: (*sum).turnWork,
		api.SetArm:     (*sum).arm,
		api.SetSwing:   (*sum).swing,
		api.SetOver:    (*sum).over,
		api.SetScale:   (*sum).scale,
	}
	var s sum
	for _, setting := range m {
		effects[setting.Kind](&s, setting)
		if s.e != api.OK {
			break
		}
	}
	return s
}
