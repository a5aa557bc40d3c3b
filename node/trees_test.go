package node_test

import (
	"slices"
	"strings"
	"testing"

	"litmus/api"
	"litmus/node"
)

// branch is a node with its kids in it, from which trees are laid.
type branch struct {
	kind      int
	name, arg string
	kids      []branch
}

func at(kind int, kids ...branch) branch { return branch{kind: kind, kids: kids} }

func named(kind int, name string, kids ...branch) branch {
	return branch{kind: kind, name: name, kids: kids}
}

func binds(kind int, arg string, kids ...branch) branch {
	return branch{kind: kind, arg: arg, kids: kids}
}

func def(name, arg string, kids ...branch) branch { return branch{api.XDef, name, arg, kids} }

func top() branch { return named(api.YTag, "Top") }

func variable(s string) branch { return named(api.XVar, s) }

func number(s string) branch { return named(api.XInt, s) }

func text(s string) branch { return named(api.XStr, s) }

func yes() branch { return at(api.FTrue) }

// main is a def of that expression.
func main(e branch) branch { return def("main", "x", top(), top(), e) }

// typed is a def of that type.
func typed(y branch) branch { return def("main", "x", y, top(), variable("x")) }

// formed is a def with that form in it.
func formed(f branch) branch { return typed(binds(api.YWhere, "v", f)) }

// times is so many of b.
func times(n int, b branch) []branch { return slices.Repeat([]branch{b}, n) }

// nested is inner in so many of what wrap makes.
func nested(n int, inner branch, wrap func(branch) branch) branch {
	for range n {
		inner = wrap(inner)
	}
	return inner
}

// laid is the tree of the defs, each node where it ends.
func laid(defs ...branch) api.Tree {
	var t api.Tree
	var lay func(b branch) int
	lay = func(b branch) int {
		n := api.Node{Kind: b.kind, Name: b.name, Arg: b.arg}
		for _, k := range b.kids {
			n.Kids = append(n.Kids, lay(k))
		}
		n.Pos = 3 * len(t.Nodes)
		t.Nodes = append(t.Nodes, n)
		return len(t.Nodes) - 1
	}
	for _, d := range defs {
		t.Defs = append(t.Defs, lay(d))
	}
	return t
}

// size and depth are what the branch says of itself.
func (b branch) size() int {
	n := 1
	for _, k := range b.kids {
		n += k.size()
	}
	return n
}

func (b branch) depth() int {
	most := 0
	for _, k := range b.kids {
		most = max(most, k.depth())
	}
	return most + 1
}

// each goes through what stands in b, in the order in which it ends.
func (b branch) each(do func(branch)) {
	for _, k := range b.kids {
		k.each(do)
	}
	do(b)
}

// line is one of the chapter's table, in signs of its own: names are # (a number), $ (any bytes), ! (a bound name), or words; kids are a sort's letter each, s an XStr, a a YArrow; they come over and over where low and high (lists of kids) differ.
type line struct {
	kind      int
	word      string
	names     string
	arg       bool
	kids      string
	low, high int
}

func table() []line {
	once := func(kind int, word, names string, arg bool, kids string) line {
		return line{kind, word, names, arg, kids, 1, 1}
	}
	return []line{
		once(api.XInt, "", "#", false, ""), once(api.XStr, "", "$", false, ""),
		once(api.XTrue, "true", "", false, ""), once(api.XFalse, "false", "", false, ""), once(api.XNull, "null", "", false, ""),
		once(api.XVar, "", "!", false, ""), once(api.XFn, "fn", "", true, "TTe"), once(api.XLet, "let", "", true, "ee"),
		once(api.XIf, "if", "", false, "eee"), once(api.XAssert, "assert", "", false, "e"),
		{api.XDict, "dict", "", false, "se", 0, 64}, once(api.XCall, "call", "", false, "ee"),
		{api.XOp, "", "+ - * < <= = has get set not int? bool? str? dict? fun? null?", false, "e", 1, 3},
		once(api.XDef, "def", "!", true, "TTe"), once(api.YTag, "", "Top Int Bool Str Dict Fun Null", false, ""),
		once(api.YWhere, "where", "", true, "f"), once(api.YArrow, "->", "", true, "TT"),
		{api.YOr, "or", "", false, "T", 2, 64}, {api.YAnd, "and", "", false, "T", 2, 64},
		once(api.FTrue, "true", "", false, ""), once(api.FFalse, "false", "", false, ""),
		once(api.FTag, "", "Int Bool Str Dict Fun Null", false, "t"),
		once(api.FLe, "<=", "", false, "ii"), once(api.FLt, "<", "", false, "ii"), once(api.FSame, "==", "", false, "ii"),
		once(api.FEq, "=", "", false, "tt"), once(api.FHas, "has", "", false, "tt"),
		{api.FAnd, "and", "", false, "f", 0, 64}, {api.FOr, "or", "", false, "f", 0, 64},
		once(api.FNot, "not", "", false, "f"), once(api.FIs, "is", "", false, "ta"),
		once(api.TGet, "get", "", false, "tt"), once(api.TSet, "set", "", false, "ttt"),
		once(api.TAdd, "+", "", false, "ii"), once(api.TSub, "-", "", false, "ii"), once(api.TMul, "*", "#", false, "i"),
	}
}

// kinds are those that a kid may be that the letter stands for.
func kinds(letter byte) []int {
	terms := []int{api.XInt, api.XStr, api.XTrue, api.XFalse, api.XNull, api.XVar, api.TGet, api.TSet}
	switch letter {
	case 'e':
		return []int{api.XInt, api.XStr, api.XTrue, api.XFalse, api.XNull, api.XVar, api.XFn, api.XLet, api.XIf, api.XAssert, api.XDict, api.XCall, api.XOp}
	case 'd':
		return []int{api.XDef}
	case 'T':
		return []int{api.YTag, api.YWhere, api.YArrow, api.YOr, api.YAnd}
	case 'f':
		return []int{api.FTrue, api.FFalse, api.FTag, api.FLe, api.FLt, api.FSame, api.FEq, api.FHas, api.FAnd, api.FOr, api.FNot, api.FIs}
	case 't':
		return terms
	case 'i':
		return append(terms, api.TAdd, api.TSub, api.TMul)
	case 's':
		return []int{api.XStr}
	case 'a':
		return []int{api.YArrow}
	}
	return nil
}

func sortOf(letter byte) int {
	switch letter {
	case 'e', 's':
		return node.Expr
	case 'T', 'a':
		return node.Type
	case 'f':
		return node.Form
	case 't':
		return node.Term
	}
	return node.Int
}

// model tells what is right from the table's lines alone, from defs down.
type model map[int]line

func newModel() model {
	m := model{}
	for _, l := range table() {
		m[l.kind] = l
	}
	return m
}

func (m model) number(s string) bool {
	digits := strings.TrimPrefix(s, "-")
	return s == "0" || digits != "" && digits[0] != '0' && strings.Trim(digits, "0123456789") == ""
}

func (m model) bound(s string) bool {
	const letters = "ABCDEFGHIJKLMNOPQRSTUVWXYZabcdefghijklmnopqrstuvwxyz"
	words := strings.Fields("def fn let if assert dict call not has get set and or is where true false null")
	return s != "" && strings.Contains(letters, s[:1]) && strings.Trim(s, letters+"0123456789_") == "" && !slices.Contains(words, s)
}

// kids is the letters of n's kids, and whether n is as its line says.
func (m model) kids(n api.Node) (string, bool) {
	l, ok := m[n.Kind]
	if !ok {
		return "", false
	}
	switch l.names {
	case "#":
		ok = m.number(n.Name)
	case "$":
	case "!":
		ok = m.bound(n.Name)
	default:
		ok = n.Name == "" && l.names == "" || slices.Contains(strings.Fields(l.names), n.Name)
	}
	if l.arg && !m.bound(n.Arg) || !l.arg && n.Arg != "" {
		ok = false
	}
	if n.Kind == api.XOp {
		switch {
		case strings.HasSuffix(n.Name, "?") || n.Name == "not":
			l.low, l.high = 1, 1
		case n.Name == "set":
			l.low, l.high = 3, 3
		default:
			l.low, l.high = 2, 2
		}
	}
	for often := l.low; ok && often <= l.high; often++ {
		if len(n.Kids) == often*len(l.kids) {
			return strings.Repeat(l.kids, often), true
		}
	}
	return "", false
}

// right tells whether t is: going down from each def, kid by kid, nodes are left in just the order in which they stand.
func (m model) right(t api.Tree) bool {
	next := 0
	var walk func(n int, letter byte, deep int) bool
	walk = func(n int, letter byte, deep int) bool {
		if n < 0 || n >= len(t.Nodes) || deep > 256 || !slices.Contains(kinds(letter), t.Nodes[n].Kind) {
			return false
		}
		letters, ok := m.kids(t.Nodes[n])
		if !ok {
			return false
		}
		for i, k := range t.Nodes[n].Kids {
			if k >= n || !walk(k, letters[i], deep+1) {
				return false
			}
		}
		next++
		return n == next-1
	}
	for _, d := range t.Defs {
		if !walk(d, 'd', 1) {
			return false
		}
	}
	return next == len(t.Nodes)
}

func wantRight(t *testing.T, what string, tree api.Tree) {
	t.Helper()
	if !node.Right(tree) || !newModel().right(tree) {
		t.Errorf("%s is not right", what)
	}
}

// wantWrong asks for a tree that is not right, and of which nothing is said.
func wantWrong(t *testing.T, what string, tree api.Tree) {
	t.Helper()
	if node.Right(tree) || newModel().right(tree) {
		t.Errorf("%s is right", what)
	}
	if d := node.Depth(tree); d != 0 {
		t.Errorf("%s: depth %d", what, d)
	}
	for n := -1; n <= min(len(tree.Nodes), 20); n++ {
		if s := node.Size(tree, n); s != 0 {
			t.Errorf("%s: size %d of %d", what, s, n)
		}
	}
}

// wantModel asks for what the model says of a tree.
func wantModel(t *testing.T, m model, what string, tree api.Tree) {
	t.Helper()
	if m.right(tree) {
		if !node.Right(tree) {
			t.Errorf("%s is not right: %v", what, tree)
		}
		return
	}
	if node.Right(tree) || node.Depth(tree) != 0 || node.Size(tree, 0) != 0 {
		t.Errorf("%s is right, or has a depth or sizes: %v", what, tree)
	}
}
