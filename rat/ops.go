package rat

import (
	"litmus/api"
	"litmus/big"
	"litmus/nat"
)

// Neg is less a.
func Neg(a api.Rat) api.Rat {
	return made(a, func(a api.Rat) api.Rat {
		return api.Rat{N: big.Neg(a.N), D: a.D}
	})
}

// Add is the sum.
func Add(a, b api.Rat) api.Rat {
	return ofTwo(a, b, func(n, m api.Int, d []uint32) api.Rat {
		return sumOver(d, n, m)
	})
}

// Sub is the difference.
func Sub(a, b api.Rat) api.Rat {
	return ofTwo(a, b, func(n, m api.Int, d []uint32) api.Rat {
		return sumOver(d, n, big.Neg(m))
	})
}

// Mul is the product.
func Mul(a, b api.Rat) api.Rat {
	return ofTwo(a, b, func(n, m api.Int, d []uint32) api.Rat {
		return lowest(big.Mul(n, m), nat.Mul(d, d))
	})
}

// Div is a divided by b.
func Div(a, b api.Rat) (api.Rat, api.Errno) {
	e := api.OK
	q := ofTwo(a, b, func(n, m api.Int, _ []uint32) (out api.Rat) {
		// Over one D fractions are to each other as their Ns are.
		out, e = Of(n, m)
		return out
	})
	return q, e
}

// Cmp is how a is to b.
func Cmp(a, b api.Rat) int {
	return ofTwo(a, b, func(n, m api.Int, _ []uint32) int {
		return big.Cmp(n, m)
	})
}

// Sign is on which side of 0 a is.
func Sign(a api.Rat) int {
	// Whatever D is, it counts as a number above 0.
	return big.Sign(a.N)
}

// ofTwo brings a and b to one D, the least into which both of theirs go, and answers what is told of their Ns over it.
func ofTwo[T any](a, b api.Rat, tell func(n, m api.Int, d []uint32) T) T {
	return made(a, func(a api.Rat) T {
		return made(b, func(b api.Rat) T {
			shared := nat.Gcd(a.D, b.D)
			ofA, ofB := without(b.D, shared), without(a.D, shared)
			n := big.Mul(a.N, unsigned(ofA))
			m := big.Mul(b.N, unsigned(ofB))
			return tell(n, m, nat.Mul(a.D, ofA))
		})
	})
}

// sumOver is the sum of any number of Ns over one D: lowest terms are looked for once, of all of them together.
func sumOver(d []uint32, n ...api.Int) api.Rat { return lowest(big.Add(n...), d) }
