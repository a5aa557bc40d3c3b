package lin

import (
	"litmus/api"
	"litmus/big"
	"litmus/nat"
	"litmus/rat"
)

// Whole is l so often that its Coefs are whole, and as small as can be.
func Whole(l api.Lin) api.Lin {
	l = right(l)
	if len(l.Vars) == 0 {
		return Const(rat.From(int64(rat.Sign(l.C))))
	}
	return Scale(l, wholly(l.Coefs...))
}

// wholly is the least fraction above 0 that makes all of these, which are right and not 0, whole.
func wholly(coefs ...api.Rat) api.Rat {
	above, below := nat.From(1), nat.From(0)
	for _, often := range coefs {
		// In lowest terms: it must have all Ds in it, and may be divided by what all Ns share.
		above = least(above, often.D)
		below = nat.Gcd(below, often.N.Mag)
	}
	out, _ := rat.Of(big.Of(false, above), big.Of(false, below))
	return out
}

// least is the least number into which both, which are not 0, go.
func least(a, b []uint32) []uint32 {
	rest, _, _ := nat.Div(b, nat.Gcd(a, b))
	return nat.Mul(a, rest)
}
