package lin

import (
	"cmp"
	"strconv"
	"strings"

	"litmus/api"
	"litmus/rat"
)

// Cmp is how a is to b, by the first thing that is not alike.
func Cmp(a, b api.Lin) int {
	a, b = right(a), right(b)
	order := cmp.Compare(len(a.Vars), len(b.Vars))
	for i := 0; order == 0 && i < len(a.Vars); i++ {
		order = cmp.Or(cmp.Compare(a.Vars[i], b.Vars[i]), rat.Cmp(a.Coefs[i], b.Coefs[i]))
	}
	if order == 0 {
		order = rat.Cmp(a.C, b.C)
	}
	return order
}

// Same tells whether nothing is not alike.
func Same(a, b api.Lin) bool { return Cmp(a, b) == 0 }

// Text is l's variables, with their fractions, and C behind them.
func Text(l api.Lin) string {
	l = right(l)
	var out strings.Builder
	for v, often := range pairs(l.Vars, l.Coefs) {
		out.WriteString(rat.Text(often) + "v" + strconv.Itoa(v) + " ")
	}
	return out.String() + rat.Text(l.C)
}
