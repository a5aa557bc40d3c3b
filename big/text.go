package big

import (
	"strings"

	"litmus/api"
	"litmus/nat"
)

const minus = "-"

// Text is a's digits, with its sign.
func Text(a api.Int) string {
	digits := nat.Text(a.Mag)
	if Sign(a) < 0 {
		return minus + digits
	}
	return digits
}

// Parse is the number of a text.
func Parse(s string) (api.Int, bool) {
	digits, neg := strings.CutPrefix(s, minus)
	mag, ok := nat.Parse(digits)
	if !ok || neg && len(mag) == 0 {
		return api.Int{}, false
	}
	return signed(neg, mag), true
}
