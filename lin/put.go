package lin

import (
	"litmus/api"
	"litmus/rat"
)

// Put is l, with m for v.
func Put(l api.Lin, v int, m api.Lin) api.Lin {
	// v goes and m comes at one time, so that m may have v in it.
	return Add(l, Scale(Sub(m, Var(v)), Coef(l, v)))
}

// At is the fraction that l is where the variables are vals.
func At(l api.Lin, vars []int, vals []api.Rat) api.Rat {
	is := firsts(vars, vals)
	row := []api.Rat{l.C}
	for v, often := range pairs(l.Vars, l.Coefs) {
		row = append(row, rat.Mul(often, is(v)))
	}
	return total(row...)
}

// firsts tells of a variable the first fraction beside it; one that has none is 0.
func firsts(vars []int, vals []api.Rat) func(v int) api.Rat {
	first := map[int]api.Rat{}
	for v, val := range pairs(vars, vals) {
		if _, there := first[v]; !there {
			first[v] = val
		}
	}
	// A fraction without limbs counts as 0.
	return func(v int) api.Rat { return first[v] }
}
