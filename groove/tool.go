package groove

import "barleycorn/api"

// Depth returns the low and the high depth for a pressure (P5.1).
func Depth(t api.Tool, press int) (low, high int, e api.Errno) {
	if e := CheckTool(t); e != api.OK {
		return 0, 0, e
	}
	if !areWithin(0, api.MaxPress, press) {
		return 0, 0, api.ErrArg
	}
	low, high = depth(t, press)
	return low, high, api.OK
}

// Half returns the half at a depth (P5.1).
func Half(t api.Tool, depth int) (int, api.Errno) {
	if e := CheckTool(t); e != api.OK {
		return 0, e
	}
	if !areWithin(0, api.MaxDepth, depth) {
		return 0, api.ErrArg
	}
	return half(t, depth), api.OK
}

// depth returns the low and the high depth of a valid tool for a pressure.
func depth(t api.Tool, press int) (low, high int) {
	middle := press * t.Bite / 100
	return max(middle-t.Slack, 0), middle + t.Slack
}

// half returns the half of a valid tool at a depth.
func half(t api.Tool, depth int) int {
	roundedUp := (depth*t.Num + t.Den - 1) / t.Den
	return t.Tip + roundedUp
}
