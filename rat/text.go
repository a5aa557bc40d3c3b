package rat

import (
	"strings"

	"litmus/api"
	"litmus/big"
	"litmus/nat"
)

const stroke = "/"

// Text is N's text, and D's digits, if it is not 1.
func Text(a api.Rat) string {
	return made(a, func(a api.Rat) string {
		if isOne(a.D) {
			return big.Text(a.N)
		}
		return big.Text(a.N) + stroke + nat.Text(a.D)
	})
}

// Parse is the fraction of a text; beside false stands the right 0, as answers are right there, too.
func Parse(s string) (api.Rat, bool) {
	above, below, parted := strings.Cut(s, stroke)
	n, ok := big.Parse(above)
	if !ok {
		return From(0), false
	}
	if !parted {
		return Int(n), true
	}
	d, ok := nat.Parse(below)
	a := api.Rat{N: n, D: d}
	// A D of 1 is not written; one that is no D at all, or not in lowest terms, is no right fraction's.
	if !ok || isOne(d) || !Right(a) {
		return From(0), false
	}
	return a, true
}
