package node_test

import (
	"math"
	"slices"
	"strconv"
	"testing"

	"litmus/api"
	"litmus/node"
)

// P6.2

// sample is a program with a node of every kind.
func sample() []branch {
	v, one := variable("v"), number("-1")
	arrow := binds(api.YArrow, "a", named(api.YTag, "Int"), binds(api.YWhere, "r", at(api.FEq, variable("r"), variable("a"))))
	form := at(api.FAnd,
		at(api.FOr, at(api.FTrue), at(api.FFalse)), at(api.FNot, named(api.FTag, "Bool", v)),
		at(api.FLe, at(api.TAdd, v, one), at(api.TSub, v, named(api.TMul, "3", v))), at(api.FLt, v, one), at(api.FSame, at(api.XTrue), at(api.XNull)),
		at(api.FHas, v, text("k")), at(api.FIs, at(api.TGet, at(api.TSet, v, text(""), at(api.XFalse)), text("k")), arrow))
	fn := binds(api.XFn, "y", named(api.YTag, "Dict"), top(), at(api.XAssert, named(api.XOp, "not", at(api.XFalse))))
	body := binds(api.XLet, "z", fn, at(api.XIf, at(api.XTrue), at(api.XCall, variable("z"), at(api.XDict, text("a"), at(api.XNull), text("a"), number("0"))), named(api.XOp, "set", v, text("\n"), named(api.XOp, "+", one, one))))
	return []branch{
		def("f", "v", at(api.YOr, binds(api.YWhere, "v", form), named(api.YTag, "Null")), at(api.YAnd, top(), arrow), body),
		main(at(api.XCall, variable("f"), variable("x"))),
	}
}

func TestSampleHasEveryKind(t *testing.T) {
	seen := map[int]int{}
	for _, d := range sample() {
		d.each(func(b branch) { seen[b.kind]++ })
	}
	if len(seen) != api.LastKind+1 {
		t.Error(seen)
	}
	wantRight(t, "the sample", laid(sample()...))
}

func TestRight(t *testing.T) {
	wantRight(t, "no nodes", api.Tree{})
	wantRight(t, "no nodes, by empty lists", api.Tree{Nodes: []api.Node{}, Defs: []int{}})
	wantRight(t, "a def whose name and Arg are alike", laid(def("x", "x", top(), top(), variable("x"))))
	wantRight(t, "two defs of one name", laid(main(number("1")), main(number("2"))))
	wantRight(t, "a name that is bound to nothing", laid(main(variable("nowhere"))))
	wantRight(t, "one key twice", laid(main(at(api.XDict, text("a"), number("1"), text("a"), number("1")))))
	tree := laid(sample()...)
	for i := range tree.Nodes {
		tree.Nodes[i].Pos = -i * math.MaxInt / 7
	}
	wantRight(t, "any places", tree)
}

// What stands in what: each kind as the kid of each kind, at each of its places.
func TestKidsInKinds(t *testing.T) {
	m, from := newModel(), source(61)
	for _, l := range table() {
		if l.kind == api.XDef {
			continue
		}
		for range 2 {
			b := from.grown(m, l.kind, 2)
			for i := range b.kids {
				for kind := range api.LastKind + 1 {
					kids := slices.Clone(b.kids)
					kids[i] = from.grown(m, kind, 1)
					wantModel(t, m, "kind "+strconv.Itoa(kind)+" in "+strconv.Itoa(l.kind), laid(holder(branch{b.kind, b.name, b.arg, kids})))
				}
			}
		}
	}
}

// holder is a def with b in it, where b may stand by its kind.
func holder(b branch) branch {
	switch {
	case slices.Contains(kinds('e'), b.kind):
		return main(b)
	case slices.Contains(kinds('T'), b.kind):
		return typed(b)
	case slices.Contains(kinds('f'), b.kind):
		return formed(b)
	}
	return formed(at(api.FLe, number("0"), b))
}

func TestWhatIsNoKid(t *testing.T) {
	x := variable("x")
	for what, d := range map[string]branch{
		"a number as a key":             main(at(api.XDict, number("1"), x)),
		"a name as a key":               main(at(api.XDict, x, x)),
		"a text behind a key":           main(at(api.XDict, text("a"), x, x, x)),
		"is of a type that is no arrow": formed(at(api.FIs, x, top())),
		"a get of expressions in is":    formed(at(api.FIs, named(api.XOp, "get", x, x), binds(api.YArrow, "a", top(), top()))),
		"an op as a term":               formed(at(api.FEq, named(api.XOp, "+", x, x), x)),
		"a sum in =":                    formed(at(api.FEq, at(api.TAdd, x, x), x)),
		"a sum in get":                  formed(at(api.FEq, at(api.TGet, x, at(api.TAdd, x, x)), x)),
		"a get of terms in a body":      main(at(api.TGet, x, x)),
		"a form as a type":              typed(yes()),
		"a type as a form":              formed(top()),
		"a form as a body":              main(at(api.FTrue)),
		"true of expressions as a form": formed(at(api.XTrue)),
		"a def in a def":                main(main(x)),
		"an Arg with a ?":               def("f", "a?", top(), top(), x),
		"a def's name that is kept":     def("let", "a", top(), top(), x),
		"a name with an Arg":            main(branch{api.XVar, "x", "x", nil}),
		"true with a Name":              main(named(api.XTrue, "true")),
		"fn with a Name":                main(branch{api.XFn, "f", "x", []branch{top(), top(), x}}),
		"TMul of a name":                formed(at(api.FLe, named(api.TMul, "x", x), x)),
		"TMul without a number":         formed(at(api.FLe, at(api.TMul, x), x)),
		"a tag Top in a form":           formed(named(api.FTag, "Top", x)),
		"a tag with a ?":                formed(named(api.FTag, "int?", x)),
		"an op ==":                      main(named(api.XOp, "==", x, x)),
		"an op without a Name":          main(at(api.XOp)),
	} {
		wantWrong(t, what, laid(d))
	}
	for what, b := range map[string]branch{"an expression": x, "a type": top(), "a form": yes()} {
		wantWrong(t, what+" as a def", laid(b))
	}
}

func TestLists(t *testing.T) {
	x := variable("x")
	pair := []branch{text("k"), x}
	for n, right := range map[int][4]bool{0: {true, true, false, false}, 1: {true, true, false, false}, 2: {true, true, true, true}, 63: {true, true, true, true}, 64: {true, true, true, true}, 65: {}, 200: {}} {
		for i, d := range []branch{formed(at(api.FAnd, times(n, yes())...)), formed(at(api.FOr, times(n, yes())...)), typed(at(api.YOr, times(n, top())...)), typed(at(api.YAnd, times(n, top())...))} {
			what := strconv.Itoa(n) + " in list " + strconv.Itoa(i)
			if right[i] {
				wantRight(t, what, laid(d))
			} else {
				wantWrong(t, what, laid(d))
			}
		}
	}
	for _, n := range []int{0, 1, 2, 63, 64} {
		wantRight(t, strconv.Itoa(n)+" pairs", laid(main(at(api.XDict, slices.Repeat(pair, n)...))))
		wantWrong(t, strconv.Itoa(n)+" pairs and a key", laid(main(at(api.XDict, append(slices.Repeat(pair, n), pair[0])...))))
	}
	wantWrong(t, "65 pairs", laid(main(at(api.XDict, slices.Repeat(pair, 65)...))))
}

func TestDepth(t *testing.T) {
	not := func(b branch) branch { return at(api.FNot, b) }
	for _, levels := range []int{0, 1, 2, 100, 252, 253} {
		// Three stand above the forms: the def, its type, and what is within at least.
		tree := laid(formed(nested(levels, yes(), not)))
		wantRight(t, strconv.Itoa(levels)+" times not", tree)
		if got := node.Depth(tree); got != levels+3 {
			t.Errorf("%d times not: depth %d", levels, got)
		}
	}
	for _, levels := range []int{254, 255, 256, 257, 1000, 1 << 16} {
		tree := laid(formed(nested(levels, yes(), not)))
		if node.Right(tree) || node.Depth(tree) != 0 || node.Size(tree, 0) != 0 {
			t.Errorf("%d times not: right", levels)
		}
	}
	deep := nested(254, variable("x"), func(b branch) branch { return at(api.XAssert, b) })
	wantRight(t, "256 levels in the first def", laid(main(deep), main(variable("x"))))
	wantRight(t, "256 levels in the last def", laid(main(variable("x")), main(deep)))
	wantWrong(t, "257 levels in the first def", laid(main(at(api.XAssert, deep)), main(variable("x"))))
	wantWrong(t, "257 levels in the last def", laid(main(variable("x")), main(at(api.XAssert, deep))))
	if got := node.Depth(laid(main(deep), main(variable("x")))); got != 256 {
		t.Error(got)
	}
	if got := node.Depth(api.Tree{}); got != 0 {
		t.Error(got)
	}
}

func TestSize(t *testing.T) {
	tree := laid(sample()...)
	n := 0
	for _, d := range sample() {
		d.each(func(b branch) {
			if got := node.Size(tree, n); got != b.size() {
				t.Errorf("Size of %d: %d, want %d", n, got, b.size())
			}
			n++
		})
	}
	for _, n := range []int{-1, len(tree.Nodes), math.MaxInt, math.MinInt} {
		if got := node.Size(tree, n); got != 0 {
			t.Errorf("Size of %d: %d", n, got)
		}
	}
	if got := node.Size(api.Tree{}, 0); got != 0 {
		t.Error(got)
	}
}

// changes are all trees that differ from t by one thing.
func changes(t api.Tree, do func(what string, changed api.Tree)) {
	change := func(what string, n int, by func(*api.Tree)) {
		c := copied(t)
		by(&c)
		do(what+" "+strconv.Itoa(n), c)
	}
	for n, old := range t.Nodes {
		for kind := -1; kind <= api.LastKind+1; kind++ {
			change("kind", n, func(c *api.Tree) { c.Nodes[n].Kind = kind })
		}
		for _, s := range []string{"", "x", "has", "a?", "0", "-0", "+", "set", "not", "Top", "Int", "\n"} {
			change("name", n, func(c *api.Tree) { c.Nodes[n].Name = s })
			change("arg", n, func(c *api.Tree) { c.Nodes[n].Arg = s })
		}
		for i, k := range old.Kids {
			for _, other := range []int{k - 1, k + 1, n, n + 1, -1, 0, len(t.Nodes), math.MaxInt, math.MinInt} {
				change("kid", n, func(c *api.Tree) { c.Nodes[n].Kids[i] = other })
			}
			change("kid left out", n, func(c *api.Tree) { c.Nodes[n].Kids = slices.Delete(c.Nodes[n].Kids, i, i+1) })
			change("kid twice", n, func(c *api.Tree) { c.Nodes[n].Kids = slices.Insert(c.Nodes[n].Kids, i, k) })
			change("kids turned", n, func(c *api.Tree) { l := c.Nodes[n].Kids; l[0], l[i] = l[i], l[0] })
		}
		for _, k := range []int{n - 1, n, n + 1, 0, -1} {
			change("kid more", n, func(c *api.Tree) { c.Nodes[n].Kids = append(c.Nodes[n].Kids, k) })
			change("kid more ahead", n, func(c *api.Tree) { c.Nodes[n].Kids = slices.Insert(c.Nodes[n].Kids, 0, k) })
		}
		change("node left out", n, func(c *api.Tree) { c.Nodes = slices.Delete(c.Nodes, n, n+1) })
		change("node twice", n, func(c *api.Tree) { c.Nodes = slices.Insert(c.Nodes, n, old) })
		change("node at the end again", n, func(c *api.Tree) { c.Nodes = append(c.Nodes, old) })
		change("nodes turned", n, func(c *api.Tree) { c.Nodes[0], c.Nodes[n] = c.Nodes[n], c.Nodes[0] })
		change("def more", n, func(c *api.Tree) { c.Defs = append(c.Defs, n) })
		change("def more ahead", n, func(c *api.Tree) { c.Defs = slices.Insert(c.Defs, 0, n) })
		change("cut at", n, func(c *api.Tree) { c.Nodes = c.Nodes[:n] })
	}
	for i, d := range t.Defs {
		for _, other := range []int{d - 1, d + 1, -1, 0, len(t.Nodes), math.MaxInt, math.MinInt} {
			change("def", i, func(c *api.Tree) { c.Defs[i] = other })
		}
		change("def left out", i, func(c *api.Tree) { c.Defs = slices.Delete(c.Defs, i, i+1) })
		change("def twice", i, func(c *api.Tree) { c.Defs = slices.Insert(c.Defs, i, d) })
		change("defs turned", i, func(c *api.Tree) { c.Defs[0], c.Defs[i] = c.Defs[i], c.Defs[0] })
	}
	change("no defs of", len(t.Defs), func(c *api.Tree) { c.Defs = nil })
}

// copied is a copy by other means than the one that is tested.
func copied(t api.Tree) api.Tree {
	out := api.Tree{Nodes: append([]api.Node(nil), t.Nodes...), Defs: append([]int(nil), t.Defs...)}
	for i, n := range out.Nodes {
		out.Nodes[i].Kids = append([]int(nil), n.Kids...)
	}
	return out
}

// What the model says of a tree by which one thing is changed is said; most of them are not right.
func TestOneChange(t *testing.T) {
	m := newModel()
	for _, defs := range [][]branch{sample(), {main(variable("x"))}, {main(variable("x")), main(number("1")), typed(top())}} {
		tree := laid(defs...)
		wrong, all := 0, 0
		changes(tree, func(what string, changed api.Tree) {
			wantModel(t, m, what, changed)
			all++
			if !node.Right(changed) {
				wrong++
			}
		})
		if wrong*10 < all*9 {
			t.Errorf("%d of %d changed trees are not right", wrong, all)
		}
		if !node.Same(tree, laid(defs...)) {
			t.Error("a tree was changed")
		}
	}
}

// Kids that lead round, or up, are told as they are.
func TestTreesThatAreNone(t *testing.T) {
	def := func(kids ...int) api.Node { return api.Node{Kind: api.XDef, Name: "f", Arg: "x", Kids: kids} }
	tag := api.Node{Kind: api.YTag, Name: "Top"}
	x := api.Node{Kind: api.XVar, Name: "x"}
	call := func(a, b int) api.Node { return api.Node{Kind: api.XCall, Kids: []int{a, b}} }
	for what, tree := range map[string]api.Tree{
		"a def that is its own kid":             {Nodes: []api.Node{def(0, 0, 0)}, Defs: []int{0}},
		"nodes without defs":                    {Nodes: []api.Node{tag}},
		"defs without nodes":                    {Defs: []int{0}},
		"kids behind their node":                {Nodes: []api.Node{def(1, 2, 3), tag, tag, x}, Defs: []int{0}},
		"types in the other order":              {Nodes: []api.Node{tag, tag, x, def(1, 0, 2)}, Defs: []int{3}},
		"a kid of two":                          {Nodes: []api.Node{tag, tag, x, call(2, 2), def(0, 1, 3)}, Defs: []int{4}},
		"one type for both":                     {Nodes: []api.Node{tag, x, def(0, 0, 1)}, Defs: []int{2}},
		"a node that none has, at the start":    {Nodes: []api.Node{x, tag, tag, x, def(1, 2, 3)}, Defs: []int{4}},
		"a node that none has, at the end":      {Nodes: []api.Node{tag, tag, x, def(0, 1, 2), x}, Defs: []int{3}},
		"a node that none has, between":         {Nodes: []api.Node{tag, tag, x, x, def(0, 1, 3)}, Defs: []int{4}},
		"a kid of a def that is one of another": {Nodes: []api.Node{tag, tag, x, def(0, 1, 2), tag, x, def(0, 4, 5)}, Defs: []int{3, 6}},
		"kids that lead round":                  {Nodes: []api.Node{tag, tag, call(3, 3), call(2, 2), def(0, 1, 3)}, Defs: []int{4}},
	} {
		wantWrong(t, what, tree)
	}
	// Each call has the one ahead of it twice: told without going down each of the ways.
	doubled := api.Tree{Nodes: []api.Node{x}, Defs: []int{199}}
	for n := range 199 {
		doubled.Nodes = append(doubled.Nodes, call(n, n))
	}
	wantWrong(t, "calls that have one twice", doubled)
}

func TestManyNodes(t *testing.T) {
	defs := slices.Repeat([]branch{main(at(api.XCall, variable("x"), number("7")))}, 1<<15)
	tree := laid(defs...)
	last := len(tree.Nodes) - 1
	if !node.Right(tree) || node.Depth(tree) != 3 || node.Size(tree, last) != 6 {
		t.Error(node.Right(tree), node.Depth(tree), node.Size(tree, last))
	}
	tree.Nodes[last].Kids[2]--
	if node.Right(tree) {
		t.Error("right, though its last def has another kid")
	}
}
