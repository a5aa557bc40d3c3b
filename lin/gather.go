package lin

import (
	"iter"
	"maps"
	"slices"

	"litmus/api"
	"litmus/rat"
)

// together is the right sum of all of l, with each of their fractions, C too, as change makes it; change must be linear, as a variable may stand in more places than one.
func together(change func(often api.Rat) api.Rat, l ...api.Lin) api.Lin {
	var alone []api.Rat
	rows := map[int][]api.Rat{}
	for _, one := range l {
		alone = append(alone, change(one.C))
		for v, often := range pairs(one.Vars, one.Coefs) {
			rows[v] = append(rows[v], change(often))
		}
	}
	out := api.Lin{C: total(alone...)}
	for v, often := range rising(rows) {
		out.Vars = append(out.Vars, v)
		out.Coefs = append(out.Coefs, often)
	}
	return out
}

// pairs has variables and fractions side by side, as they come, as far as both lists go.
func pairs(vars []int, fractions []api.Rat) iter.Seq2[int, api.Rat] {
	return func(yield func(int, api.Rat) bool) {
		for i := range min(len(vars), len(fractions)) {
			if !yield(vars[i], fractions[i]) {
				return
			}
		}
	}
}

// rising has the variables in order, each with its row's total; those that come to 0 are no part of a right sum.
func rising(rows map[int][]api.Rat) iter.Seq2[int, api.Rat] {
	return func(yield func(int, api.Rat) bool) {
		for _, v := range slices.Sorted(maps.Keys(rows)) {
			often := total(rows[v]...)
			if rat.Sign(often) != 0 && !yield(v, often) {
				return
			}
		}
	}
}

// total is the sum of fractions: right, and new, also of a single one.
func total(row ...api.Rat) api.Rat {
	switch len(row) {
	case 0:
		return rat.From(0)
	case 1:
		return rat.Add(rat.From(0), row[0])
	case 2:
		return rat.Add(row[0], row[1])
	}
	// By halves, so that of a long row only few fractions grow long.
	half := len(row) / 2
	return rat.Add(total(row[:half]...), total(row[half:]...))
}
