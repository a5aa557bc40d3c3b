package big

import (
	"litmus/api"
	"litmus/nat"
)

// Neg is a with the other sign.
func Neg(a api.Int) api.Int { return Of(!a.Neg, a.Mag) }

// Add is the sum of all.
func Add(l ...api.Int) api.Int { return fold(l, api.Int{}, plus) }

// Sub is a less b.
func Sub(a, b api.Int) api.Int {
	return plus(a, api.Int{Neg: !b.Neg, Mag: b.Mag})
}

// Mul is the product of all.
func Mul(l ...api.Int) api.Int { return fold(l, From(1), times) }

// fold is what a row comes to by a function of two; none is what an empty row is, and changes nothing.
func fold[T any](l []T, none T, two func(a, b T) T) T {
	switch len(l) {
	case 0:
		return none
	case 1:
		// What stands in the row is the caller's: the answer is made anew.
		return two(none, l[0])
	case 2:
		return two(l[0], l[1])
	}
	// By halves, so that of a long row only few numbers grow long.
	half := len(l) / 2
	return two(fold(l[:half], none, two), fold(l[half:], none, two))
}

func plus(a, b api.Int) api.Int {
	if a.Neg == b.Neg {
		return signed(a.Neg, nat.Add(a.Mag, b.Mag))
	}
	if more, ok := nat.Sub(a.Mag, b.Mag); ok {
		return signed(a.Neg, more)
	}
	more, _ := nat.Sub(b.Mag, a.Mag)
	return signed(b.Neg, more)
}

func times(a, b api.Int) api.Int {
	return signed(a.Neg != b.Neg, nat.Mul(a.Mag, b.Mag))
}
