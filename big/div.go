package big

import (
	"litmus/api"
	"litmus/nat"
)

// Div is the greatest whole number that is not more than a divided by b.
func Div(a, b api.Int) (api.Int, api.Errno) {
	return divided(a, b, func(often, left []uint32) api.Int {
		if a.Neg != b.Neg && len(left) > 0 {
			// Below 0 the next whole number down is farther from 0.
			often = nat.Add(often, nat.From(1))
		}
		return signed(a.Neg != b.Neg, often)
	})
}

// Mod is a less b times what Div answers.
func Mod(a, b api.Int) (api.Int, api.Errno) {
	return divided(a, b, func(_, left []uint32) api.Int {
		if a.Neg != b.Neg && len(left) > 0 {
			// What is left is less than b, so this never falls below 0.
			left, _ = nat.Sub(b.Mag, left)
		}
		return signed(b.Neg, left)
	})
}

// divided divides without signs; what comes of how often b goes into a, and of what is left, is told by tell.
func divided(a, b api.Int, tell func(often, left []uint32) api.Int) (api.Int, api.Errno) {
	often, left, e := nat.Div(a.Mag, b.Mag)
	if e != api.OK {
		return api.Int{}, e
	}
	return tell(often, left), api.OK
}
