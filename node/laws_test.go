package node_test

import (
	"reflect"
	"slices"
	"testing"

	"litmus/api"
	"litmus/node"
)

// P6.3

func TestSame(t *testing.T) {
	tree := laid(sample()...)
	other := copied(tree)
	for i := range other.Nodes {
		other.Nodes[i].Pos = -1
	}
	if !node.Same(tree, tree) || !node.Same(tree, other) || !node.Same(other, tree) {
		t.Error("places make a difference")
	}
	changes(tree, func(what string, changed api.Tree) {
		for i := range changed.Nodes {
			changed.Nodes[i].Pos = 0
		}
		alike := slices.Equal(tree.Defs, changed.Defs) && len(tree.Nodes) == len(changed.Nodes)
		for i := 0; alike && i < len(tree.Nodes); i++ {
			a, b := tree.Nodes[i], changed.Nodes[i]
			alike = a.Kind == b.Kind && a.Name == b.Name && a.Arg == b.Arg && slices.Equal(a.Kids, b.Kids)
		}
		if node.Same(tree, changed) != alike || node.Same(changed, tree) != alike {
			t.Errorf("%s: Same is not %v", what, alike)
		}
		if !node.Same(changed, copied(changed)) {
			t.Errorf("%s: not the Same as itself", what)
		}
	})
}

func TestSameOfEmptyLists(t *testing.T) {
	if !node.Same(api.Tree{}, api.Tree{Nodes: []api.Node{}, Defs: []int{}}) {
		t.Error("empty lists make a difference")
	}
	a, b := laid(main(variable("x"))), laid(main(variable("x")))
	b.Nodes[0].Kids = []int{}
	if !node.Same(a, b) {
		t.Error("a list of no kids makes a difference")
	}
	b.Nodes[0].Kids = []int{0}
	if node.Same(a, b) || node.Same(a, api.Tree{}) {
		t.Error("kids make no difference")
	}
}

func TestCopy(t *testing.T) {
	tree := laid(sample()...)
	changes(tree, func(what string, changed api.Tree) {
		if got := node.Copy(changed); !reflect.DeepEqual(got, changed) {
			t.Errorf("%s: the copy is another one", what)
		}
	})
	two := node.Copy(tree)
	if !reflect.DeepEqual(two, tree) {
		t.Fatal("the copy is another one")
	}
	spoil(two)
	if !reflect.DeepEqual(tree, laid(sample()...)) {
		t.Error("what was done to the copy was done to the tree")
	}
	one := node.Copy(tree)
	spoil(tree)
	if !reflect.DeepEqual(one, laid(sample()...)) {
		t.Error("what was done to the tree was done to the copy")
	}
	if got := node.Copy(api.Tree{}); len(got.Nodes) != 0 || len(got.Defs) != 0 {
		t.Error(got)
	}
}

// spoil changes all that t has, and writes into what room its lists have behind their ends.
func spoil(t api.Tree) {
	ints := func(l []int) {
		l = l[:cap(l)]
		for i := range l {
			l[i] = -7
		}
	}
	for _, n := range t.Nodes {
		ints(n.Kids)
	}
	nodes := t.Nodes[:cap(t.Nodes)]
	for i := range nodes {
		nodes[i] = api.Node{Kind: -1, Name: "spoilt", Arg: "spoilt", Pos: -1}
	}
	ints(t.Defs)
}

// Lists of one copy share no room: what is put behind one stays out of another.
func TestCopiedListsStandAlone(t *testing.T) {
	all := []int{0, 1, 2, 3, 4, 5}
	tree := api.Tree{Nodes: []api.Node{{Kids: all[:2]}, {Kids: all[2:4]}}, Defs: all[1:3]}
	two := node.Copy(tree)
	_ = append(two.Nodes[0].Kids, 9, 9, 9)
	_ = append(two.Defs, 9, 9)
	two.Defs[0] = 9
	if !slices.Equal(two.Nodes[0].Kids, []int{0, 1}) || !slices.Equal(two.Nodes[1].Kids, []int{2, 3}) || !slices.Equal(all, []int{0, 1, 2, 3, 4, 5}) {
		t.Error(two, all)
	}
}

// P6.4, and what the chapter says of right trees, of random ones.

func TestRandomTrees(t *testing.T) {
	m, from := newModel(), source(64)
	for range 150 {
		defs := from.program(m)
		tree := laid(defs...)
		kept := copied(tree)
		wantModel(t, m, "a random tree", tree)
		if !node.Right(tree) {
			t.Fatalf("not right: %v", tree)
		}
		wantSizes(t, tree, defs)
		wantWholes(t, tree)
		if !reflect.DeepEqual(tree, kept) {
			t.Fatal("a tree was changed")
		}
	}
}

// wantSizes asks for the sizes and the depth that the branches tell.
func wantSizes(t *testing.T, tree api.Tree, defs []branch) {
	t.Helper()
	n, deep := 0, 0
	for _, d := range defs {
		deep = max(deep, d.depth())
		d.each(func(b branch) {
			if got := node.Size(tree, n); got != b.size() {
				t.Errorf("Size of %d: %d, want %d", n, got, b.size())
			}
			n++
		})
	}
	if got := node.Depth(tree); got != deep {
		t.Errorf("depth %d, want %d", got, deep)
	}
}

// wantWholes asks whether what a node has are just the nodes that end with it, whether all defs together are all, and whether what is left is right without the last one.
func wantWholes(t *testing.T, tree api.Tree) {
	t.Helper()
	var has func(n int) []int
	has = func(n int) []int {
		var out []int
		for _, k := range tree.Nodes[n].Kids {
			out = append(out, has(k)...)
		}
		return append(out, n)
	}
	for n := range tree.Nodes {
		l := has(n)
		if len(l) != node.Size(tree, n) || l[0] != n+1-len(l) || !slices.IsSorted(l) || len(slices.Compact(l)) != n+1-l[0] {
			t.Errorf("%d has %v, Size %d", n, l, node.Size(tree, n))
		}
	}
	all := 0
	for _, d := range tree.Defs {
		all += node.Size(tree, d)
	}
	if all != len(tree.Nodes) {
		t.Errorf("all defs have %d of %d", all, len(tree.Nodes))
	}
	for len(tree.Defs) > 0 {
		last := len(tree.Defs) - 1
		tree = api.Tree{Nodes: tree.Nodes[:len(tree.Nodes)-node.Size(tree, tree.Defs[last])], Defs: tree.Defs[:last]}
		if !node.Right(tree) {
			t.Errorf("not right without the last def: %v", tree)
		}
	}
}

// Random changes of random trees, several at once.
func TestRandomChanges(t *testing.T) {
	m, from := newModel(), source(65)
	words := []string{"", "x", "if", "1", "-0", "set", "+", "not", "Int", "Top", "a?"}
	for range 5000 {
		tree := laid(from.program(m)...)
		for range from.below(3) {
			if len(tree.Nodes) == 0 {
				break
			}
			n := from.below(len(tree.Nodes))
			one := &tree.Nodes[n]
			switch from.below(7) {
			case 0:
				one.Kind = from.below(api.LastKind + 1)
			case 1:
				one.Name = words[from.below(len(words))]
			case 2:
				one.Arg = words[from.below(len(words))]
			case 3:
				one.Kids = append(one.Kids, from.below(len(tree.Nodes)))
			case 4:
				if len(one.Kids) > 0 {
					one.Kids[from.below(len(one.Kids))] = from.below(len(tree.Nodes)+2) - 1
				}
			case 5:
				tree.Nodes = slices.Insert(tree.Nodes, n, tree.Nodes[from.below(len(tree.Nodes))])
			case 6:
				tree.Defs = append(tree.Defs, n)
			}
		}
		wantModel(t, m, "a random tree, changed", tree)
	}
}
