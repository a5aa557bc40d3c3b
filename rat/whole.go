package rat

import (
	"litmus/api"
	"litmus/big"
)

// Floor is the greatest whole number that is at most a.
func Floor(a api.Rat) api.Int {
	return made(a, func(a api.Rat) api.Int {
		down, _ := big.Div(a.N, unsigned(a.D))
		return down
	})
}

// Ceil is the least whole number that is at least a.
func Ceil(a api.Rat) api.Int { return big.Neg(Floor(Neg(a))) }

// Whole tells whether a is a whole number.
func Whole(a api.Rat) bool {
	return made(a, func(a api.Rat) bool { return isOne(a.D) })
}
