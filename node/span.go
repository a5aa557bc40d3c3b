package node

import (
	"slices"

	"litmus/api"
)

// span is what a node of a right tree has: the nodes from first up to itself, on so many levels.
type span struct{ first, levels int }

// spans is the span of each node of t; false, if t is not right.
func spans(t api.Tree) ([]span, bool) {
	table := rows()
	out := make([]span, len(t.Nodes))
	// Nodes that no node so far has as a kid: as all that a node has stands right ahead of it, its kids are the last of them, and in the end the defs are left.
	var open []int
	for i, n := range t.Nodes {
		r, ok := table[n.Kind]
		rest := len(open) - len(n.Kids)
		if !ok || !r.allows(n) || rest < 0 || !slices.Equal(open[rest:], n.Kids) {
			return nil, false
		}
		out[i] = span{i, 1}
		for kid, p := range r.each(n) {
			if !p.fits(t.Nodes[kid].Kind) {
				return nil, false
			}
			out[i].first = min(out[i].first, out[kid].first)
			out[i].levels = max(out[i].levels, out[kid].levels+1)
		}
		open = append(open[:rest], i)
	}
	if !slices.Equal(open, t.Defs) {
		return nil, false
	}
	for _, d := range t.Defs {
		if !Is(t.Nodes[d].Kind, Def) || out[d].levels > api.MaxDepth {
			return nil, false
		}
	}
	return out, true
}
