package node_test

import (
	"math"
	"slices"
	"strings"
	"testing"

	"litmus/api"
	"litmus/node"
)

// P6.1

func TestIs(t *testing.T) {
	for sort, letter := range map[int]byte{node.Expr: 'e', node.Def: 'd', node.Type: 'T', node.Form: 'f', node.Term: 't', node.Int: 'i', -1: 0, 6: 0, math.MaxInt: 0, math.MinInt: 0} {
		for kind := -2; kind <= api.LastKind+2; kind++ {
			if got, want := node.Is(kind, sort), slices.Contains(kinds(letter), kind); got != want {
				t.Errorf("Is(%d, %d): %v", kind, sort, got)
			}
		}
		for _, kind := range []int{math.MinInt, math.MaxInt} {
			if node.Is(kind, sort) {
				t.Errorf("Is(%d, %d): true", kind, sort)
			}
		}
	}
}

func TestSorts(t *testing.T) {
	if got := []int{node.Expr, node.Def, node.Type, node.Form, node.Term, node.Int}; !slices.Equal(got, []int{0, 1, 2, 3, 4, 5}) {
		t.Error(got)
	}
}

func TestName(t *testing.T) {
	for _, s := range []string{"x", "Z", "Int", "Top", "Null", "main", "a_1", "a__", "x9", "deff", "Def", "DEF", "nulls", "orr", "i", "tru", "int", "iff", strings.Repeat("a", 1<<16)} {
		if !node.Name(s) {
			t.Errorf("Name(%q): false", s)
		}
	}
	for _, s := range []string{"def", "fn", "let", "if", "assert", "dict", "call", "not", "has", "get", "set", "and", "or", "is", "where", "true", "false", "null"} {
		if node.Name(s) || node.Name(s+"?") {
			t.Errorf("Name(%q): true", s)
		}
		if !node.Name(s + "_") {
			t.Errorf("Name(%q): false", s+"_")
		}
	}
	for _, s := range []string{"", "a?", "int?", "?", "a??", "a?b", "1", "1a", "_", "_a", "-", "->", "=", " a", "a ", "a b", "a\n", "(a)", "\"a\"", "a-b", "é", "a\x00", "\xff", strings.Repeat("a", 1<<16) + "?"} {
		if node.Name(s) {
			t.Errorf("Name(%q): true", s)
		}
	}
}

func TestWord(t *testing.T) {
	for _, l := range table() {
		if got := node.Word(l.kind); got != l.word {
			t.Errorf("Word(%d): %q, want %q", l.kind, got, l.word)
		}
	}
	for _, kind := range []int{-1, api.LastKind + 1, math.MinInt, math.MaxInt} {
		if got := node.Word(kind); got != "" {
			t.Errorf("Word(%d): %q", kind, got)
		}
	}
}

// wantKids asks for what the model says of n.
func wantKids(t *testing.T, m model, n api.Node) {
	t.Helper()
	letters, ok := m.kids(n)
	var want []int
	for i := range len(letters) {
		want = append(want, sortOf(letters[i]))
	}
	if got, is := node.Kids(n); is != ok || !slices.Equal(got, want) {
		t.Errorf("Kids of %v: %v %v, want %v %v", n, got, is, want, ok)
	}
}

// Every kind, with each Name and Arg that some kind has, and each number of kids.
func TestKids(t *testing.T) {
	m := newModel()
	names := []string{"", "x", "a?", "true", "def", "0", "-7", "-0", "07", "+1", "Top", "Int", "int", "Any", "==", "->", "and", "or", "top?", "\xff\n"}
	for _, l := range table() {
		if words := strings.Fields(l.names); len(words) > 1 {
			names = append(names, words...)
		}
	}
	for kind := -1; kind <= api.LastKind+1; kind++ {
		for _, name := range names {
			for _, arg := range []string{"", "x", "a?", "fn", "1", "Top", " "} {
				for many := range 5 {
					wantKids(t, m, api.Node{Kind: kind, Name: name, Arg: arg, Kids: make([]int, many)})
				}
			}
		}
	}
}

func TestKidsOfLists(t *testing.T) {
	m := newModel()
	for kind := range api.LastKind + 1 {
		for _, many := range []int{5, 6, 62, 63, 64, 65, 66, 126, 127, 128, 129, 130, 256, 1 << 16} {
			wantKids(t, m, api.Node{Kind: kind, Kids: make([]int, many)})
		}
	}
	for kind, most := range map[int]int{api.XDict: 128, api.YOr: 64, api.YAnd: 64, api.FAnd: 64, api.FOr: 64} {
		if _, ok := node.Kids(api.Node{Kind: kind, Kids: make([]int, most)}); !ok {
			t.Errorf("kind %d: not %d kids", kind, most)
		}
		if l, ok := node.Kids(api.Node{Kind: kind, Kids: make([]int, most+2)}); ok || l != nil {
			t.Errorf("kind %d: %d kids", kind, most+2)
		}
	}
}

// What the kids are, and where the node stands, is not asked.
func TestKidsOfAnyPlace(t *testing.T) {
	n := api.Node{Kind: api.FIs, Kids: []int{math.MinInt, math.MaxInt}, Pos: -9}
	got, ok := node.Kids(n)
	if !ok || !slices.Equal(got, []int{node.Term, node.Type}) {
		t.Error(got, ok)
	}
	got[0] = 9
	if again, ok := node.Kids(n); !ok || !slices.Equal(again, []int{node.Term, node.Type}) || n.Kids[0] != math.MinInt {
		t.Error("an answer that was changed changed the next one")
	}
	if got, ok := node.Kids(api.Node{Kind: api.XDict, Kids: []int{7, 7, 7, 7}}); !ok || !slices.Equal(got, []int{node.Expr, node.Expr, node.Expr, node.Expr}) {
		t.Error(got, ok)
	}
	if got, ok := node.Kids(api.Node{}); ok || got != nil {
		t.Error("an XInt without a number", got, ok)
	}
}

func TestExamples(t *testing.T) {
	for s, want := range map[string]bool{"x": true, "has": false, "Int": true, "a_1": true, "a?": false, "1": false} {
		if node.Name(s) != want {
			t.Errorf("Name(%q): %v", s, !want)
		}
	}
	if node.Word(api.XOp) != "" || node.Word(api.FSame) != "==" || node.Word(api.TMul) != "*" {
		t.Error(node.Word(api.XOp), node.Word(api.FSame), node.Word(api.TMul))
	}
	set := api.Node{Kind: api.XOp, Name: "set", Kids: []int{0, 1, 2}}
	if got, ok := node.Kids(set); !ok || !slices.Equal(got, []int{node.Expr, node.Expr, node.Expr}) {
		t.Error(got, ok)
	}
	set.Kids = set.Kids[:2]
	if got, ok := node.Kids(set); ok || got != nil {
		t.Error(got, ok)
	}
	tree := laid(main(variable("x")))
	if !node.Right(tree) || node.Depth(tree) != 2 || node.Size(tree, 3) != 4 {
		t.Error(node.Right(tree), node.Depth(tree), node.Size(tree, 3))
	}
	tree.Nodes = append(tree.Nodes, tree.Nodes[3])
	wantWrong(t, "its last node twice", tree)
}
