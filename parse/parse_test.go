package parse_test

import (
	"errors"
	"slices"
	"strings"
	"testing"

	"litmus/api"
	"litmus/lex"
	"litmus/node"
	"litmus/parse"
)

// P7.1

func n(kind int, name, arg string, pos int, kids ...int) api.Node {
	return api.Node{Kind: kind, Name: name, Arg: arg, Kids: kids, Pos: pos}
}

// wantNodes asks that s is a program of these nodes.
func wantNodes(t *testing.T, s string, defs []int, nodes ...api.Node) {
	t.Helper()
	got, err := parse.Parse(s)
	same := func(a, b api.Node) bool {
		return a.Kind == b.Kind && a.Name == b.Name && a.Arg == b.Arg && a.Pos == b.Pos && slices.Equal(a.Kids, b.Kids)
	}
	if err != nil || !slices.Equal(got.Defs, defs) || !slices.EqualFunc(got.Nodes, nodes, same) {
		t.Errorf("Parse of %q: %v, %v; want %v, %v", s, got, api.Told(err), nodes, defs)
	}
}

// wantExpr asks that s is an expression of these nodes, places told from its start.
func wantExpr(t *testing.T, s string, nodes ...api.Node) {
	t.Helper()
	const ahead = "(def f (x Top) Top "
	want := []api.Node{n(api.YTag, "Top", "", 10), n(api.YTag, "Top", "", 15)}
	for _, x := range nodes {
		want = append(want, moved(x, 2, len(ahead)))
	}
	wantNodes(t, ahead+s+")", []int{len(want)}, append(want, n(api.XDef, "f", "x", 0, 0, 1, len(want)-1))...)
}

// wantType asks the same of a type.
func wantType(t *testing.T, s string, nodes ...api.Node) {
	t.Helper()
	const ahead = "(def f (x "
	var want []api.Node
	for _, x := range nodes {
		want = append(want, moved(x, 0, len(ahead)))
	}
	i, end := len(want), len(ahead)+len(s)
	wantNodes(t, ahead+s+") Top 0)", []int{i + 2}, append(want, n(api.YTag, "Top", "", end+2), n(api.XInt, "0", "", end+6), n(api.XDef, "f", "x", 0, i-1, i, i+1))...)
}

// wantForm asks the same of a form.
func wantForm(t *testing.T, s string, nodes ...api.Node) {
	t.Helper()
	const ahead = "(where v "
	var want []api.Node
	for _, x := range nodes {
		want = append(want, moved(x, 0, len(ahead)))
	}
	wantType(t, ahead+s+")", append(want, n(api.YWhere, "", "v", 0, len(want)-1))...)
}

func moved(x api.Node, nodes, bytes int) api.Node {
	x.Pos += bytes
	for i := range x.Kids {
		x.Kids[i] += nodes
	}
	return x
}

func TestNoDefs(t *testing.T) {
	for _, s := range []string{"", " ", "\n\t\r", ";(def", "; a\n ;b\n"} {
		wantNodes(t, s, nil)
	}
}

func TestDefs(t *testing.T) {
	wantNodes(t, "(def f (x Int) Str y)\n (def g(f Top)Null f)", []int{3, 7},
		n(api.YTag, "Int", "", 10), n(api.YTag, "Str", "", 15), n(api.XVar, "y", "", 19), n(api.XDef, "f", "x", 0, 0, 1, 2),
		n(api.YTag, "Top", "", 32), n(api.YTag, "Null", "", 36), n(api.XVar, "f", "", 41), n(api.XDef, "g", "f", 23, 4, 5, 6))
}

func TestExprs(t *testing.T) {
	wantExpr(t, "0", n(api.XInt, "0", "", 0))
	wantExpr(t, " -12", n(api.XInt, "-12", "", 1))
	wantExpr(t, `"a\n\x00"`, n(api.XStr, "a\n\x00", "", 0))
	wantExpr(t, `""`, n(api.XStr, "", "", 0))
	wantExpr(t, "true", n(api.XTrue, "", "", 0))
	wantExpr(t, "false", n(api.XFalse, "", "", 0))
	wantExpr(t, "null", n(api.XNull, "", "", 0))
	for _, s := range []string{"x", "Top", "Int", "iff", "truE", "a_1", "def_", "Dict"} {
		wantExpr(t, s, n(api.XVar, s, "", 0))
	}
	wantExpr(t, "(fn (y Int) Str y)", n(api.YTag, "Int", "", 7), n(api.YTag, "Str", "", 12), n(api.XVar, "y", "", 16), n(api.XFn, "", "y", 0, 0, 1, 2))
	wantExpr(t, "(let y 1 y)", n(api.XInt, "1", "", 7), n(api.XVar, "y", "", 9), n(api.XLet, "", "y", 0, 0, 1))
	wantExpr(t, "(if a b c)", n(api.XVar, "a", "", 4), n(api.XVar, "b", "", 6), n(api.XVar, "c", "", 8), n(api.XIf, "", "", 0, 0, 1, 2))
	wantExpr(t, "(assert a)", n(api.XVar, "a", "", 8), n(api.XAssert, "", "", 0, 0))
	wantExpr(t, "(call a b)", n(api.XVar, "a", "", 6), n(api.XVar, "b", "", 8), n(api.XCall, "", "", 0, 0, 1))
	wantExpr(t, "(dict)", n(api.XDict, "", "", 0))
	wantExpr(t, `(dict "a" 1 "a" x)`, n(api.XStr, "a", "", 6), n(api.XInt, "1", "", 10), n(api.XStr, "a", "", 12), n(api.XVar, "x", "", 16), n(api.XDict, "", "", 0, 0, 1, 2, 3))
	wantExpr(t, "( set a b c )", n(api.XVar, "a", "", 6), n(api.XVar, "b", "", 8), n(api.XVar, "c", "", 10), n(api.XOp, "set", "", 0, 0, 1, 2))
	for _, op := range strings.Fields("not int? bool? str? dict? fun? null?") {
		at := len(op) + 2
		wantExpr(t, "("+op+" 7)", n(api.XInt, "7", "", at), n(api.XOp, op, "", 0, 0))
	}
	for _, op := range strings.Fields("+ - * < <= = has get") {
		at := len(op) + 2
		wantExpr(t, "("+op+" a 7)", n(api.XVar, "a", "", at), n(api.XInt, "7", "", at+2), n(api.XOp, op, "", 0, 0, 1))
	}
}

func TestTypes(t *testing.T) {
	for _, s := range strings.Fields("Top Int Bool Str Null Dict Fun") {
		wantType(t, s, n(api.YTag, s, "", 0))
	}
	wantType(t, "(where v true)", n(api.FTrue, "", "", 9), n(api.YWhere, "", "v", 0, 0))
	wantType(t, "(-> (y Int) Str)", n(api.YTag, "Int", "", 7), n(api.YTag, "Str", "", 12), n(api.YArrow, "", "y", 0, 0, 1))
	wantType(t, "(or Int Str)", n(api.YTag, "Int", "", 4), n(api.YTag, "Str", "", 8), n(api.YOr, "", "", 0, 0, 1))
	wantType(t, "(and Int Str Top)", n(api.YTag, "Int", "", 5), n(api.YTag, "Str", "", 9), n(api.YTag, "Top", "", 13), n(api.YAnd, "", "", 0, 0, 1, 2))
}

func TestForms(t *testing.T) {
	wantForm(t, "true", n(api.FTrue, "", "", 0))
	wantForm(t, "false", n(api.FFalse, "", "", 0))
	for _, s := range []string{"Int", "Bool", "Str", "Dict", "Fun", "Null"} {
		head := strings.ToLower(s) + "?"
		wantForm(t, "("+head+" v)", n(api.XVar, "v", "", len(head)+2), n(api.FTag, s, "", 0, 0))
	}
	for _, f := range []struct {
		head string
		kind int
	}{{"<=", api.FLe}, {"<", api.FLt}, {"==", api.FSame}, {"=", api.FEq}, {"has", api.FHas}} {
		at := len(f.head) + 2
		wantForm(t, "("+f.head+" v null)", n(api.XVar, "v", "", at), n(api.XNull, "", "", at+2), n(f.kind, "", "", 0, 0, 1))
	}
	wantForm(t, "(and)", n(api.FAnd, "", "", 0))
	wantForm(t, "(or)", n(api.FOr, "", "", 0))
	wantForm(t, "(and true)", n(api.FTrue, "", "", 5), n(api.FAnd, "", "", 0, 0))
	wantForm(t, "(or true false (not true))", n(api.FTrue, "", "", 4), n(api.FFalse, "", "", 9), n(api.FTrue, "", "", 20), n(api.FNot, "", "", 15, 2), n(api.FOr, "", "", 0, 0, 1, 3))
	wantForm(t, "(is 1 (-> (y Int) Str))", n(api.XInt, "1", "", 4), n(api.YTag, "Int", "", 13), n(api.YTag, "Str", "", 18), n(api.YArrow, "", "y", 6, 1, 2), n(api.FIs, "", "", 0, 0, 3))
}

func TestTerms(t *testing.T) {
	wantForm(t, "(= (get v \"a\") (set v true 1))", n(api.XVar, "v", "", 8), n(api.XStr, "a", "", 10), n(api.TGet, "", "", 3, 0, 1),
		n(api.XVar, "v", "", 20), n(api.XTrue, "", "", 22), n(api.XInt, "1", "", 27), n(api.TSet, "", "", 15, 3, 4, 5), n(api.FEq, "", "", 0, 2, 6))
	wantForm(t, "(< (+ v 1) (- null (* -3 v)))", n(api.XVar, "v", "", 6), n(api.XInt, "1", "", 8), n(api.TAdd, "", "", 3, 0, 1),
		n(api.XNull, "", "", 14), n(api.XVar, "v", "", 25), n(api.TMul, "-3", "", 19, 4), n(api.TSub, "", "", 11, 3, 5), n(api.FLt, "", "", 0, 2, 6))
	wantForm(t, "(== false (* 0 (get v v)))", n(api.XFalse, "", "", 4), n(api.XVar, "v", "", 20), n(api.XVar, "v", "", 22), n(api.TGet, "", "", 15, 1, 2), n(api.TMul, "0", "", 10, 3), n(api.FSame, "", "", 0, 0, 4))
}

// Of a head in each place where lists may stand, and of what stands behind it, the grammar tells what is wrong first.
func TestEveryFewTokens(t *testing.T) {
	g, all := grammar(), vocabulary()
	for _, ahead := range []string{"", "(", "(def f (", "(def f (x ", "(def f (x Top) Top ", "(def f (x (where v ", "(def f (x (where v (= v ", "(def f (x (where v (< v ", "(def f (x (where v (is v "} {
		for _, one := range all {
			wantModel(t, g, ahead+one)
			for _, two := range all {
				wantModel(t, g, ahead+one+" "+two)
				for _, three := range all {
					if one == "(" {
						wantModel(t, g, ahead+one+two+" "+three)
					}
				}
			}
		}
	}
}

// Of each rule of the grammar, every token may be one too many, missing, or any other one.
func TestEveryRuleChanged(t *testing.T) {
	g, from := grammar(), source(71)
	frame := map[string]string{"d": "?", "e": "(def f (x Top) Top ?)", "T": "(def f (x ?) Top x)", "f": "(def f (x (where v ?)) Top x)",
		"t": "(def f (x (where v (= ? v))) Top x)", "i": "(def f (x (where v (< ? v))) Top x)", "Y": "(def f (x (where v (is v ?))) Top x)"}
	for sign, f := range frame {
		ahead, behind, _ := strings.Cut(f, "?")
		for _, way := range g[sign] {
			var toks []string
			for _, s := range way {
				toks = append(toks, from.derived(g, s, 0)...)
			}
			for i := range len(toks) + 1 {
				rest := toks[i:]
				for _, other := range vocabulary() {
					wantModel(t, g, ahead+strings.Join(append(append(slices.Clone(toks[:i]), other), rest...), " ")+behind)
					if i < len(toks) {
						wantModel(t, g, ahead+strings.Join(append(append(slices.Clone(toks[:i]), other), rest[1:]...), " ")+behind)
					}
				}
				wantModel(t, g, ahead+strings.Join(toks[:i], " "))
			}
		}
	}
}

func TestRandomTexts(t *testing.T) {
	g, from := grammar(), source(73)
	for range 6000 {
		toks := from.program(g)
		s, _ := from.laid(toks, true)
		wantModel(t, g, s)
		s, _ = from.laid(from.changed(toks), true)
		wantModel(t, g, s)
	}
}

// What lex finds is told first, wherever it is.
func TestFaultsOfLex(t *testing.T) {
	wantWrong(t, "@", api.ErrForm, 0)
	wantWrong(t, "(not 007)", api.ErrForm, 5)
	wantWrong(t, ") \"", api.ErrForm, 2)
	wantWrong(t, "(def f (x Top) Top x) x -0 )", api.ErrForm, 24)
	wantWrong(t, deep(300, "0")+" a-b", api.ErrForm, len(deep(300, "0"))+1)
	wantWrong(t, "(def f (x Top) Top (dict "+strings.Repeat(`"" 0 `, 65)+"))\xff", api.ErrForm, 352)
}

// The end of the text is told with all that stands there.
func TestEnds(t *testing.T) {
	const s = "(def f (x (where v (is v (-> (y Int) Top)))) Top (let y (dict \"a\" 1) (fn (z Top) Str (get y \"a\"))))"
	toks, err := lex.Tokens(s)
	if err != nil {
		t.Fatal(err)
	}
	for _, tok := range toks[1:] {
		for _, more := range []string{"", " ", "\n;(", ";)\n\t"} {
			wantWrong(t, s[:tok.Pos]+more, api.ErrForm, tok.Pos+len(more))
		}
	}
	wantWrong(t, s+")", api.ErrForm, len(s))
	wantWrong(t, s+" x", api.ErrForm, len(s)+1)
	wantWrong(t, s+"(", api.ErrForm, len(s)+1)
}

// deep is a def with so many not's around the expression.
func deep(many int, e string) string {
	return "(def f (x Top) Top " + strings.Repeat("(not ", many) + e + strings.Repeat(")", many) + ")"
}

func TestDepth(t *testing.T) {
	const start = len("(def f (x Top) Top ")
	g := grammar()
	for _, e := range []string{"0", "x", `""`, "(dict)"} {
		if tree := wantWritten(t, deep(254, e)); node.Depth(tree) != 256 {
			t.Errorf("depth %d of 254 not's of %s", node.Depth(tree), e)
		}
		wantWrong(t, deep(255, e), api.ErrDeep, start+5*255)
		wantWrong(t, deep(256, e), api.ErrDeep, start+5*255)
		wantWrong(t, deep(300, e), api.ErrDeep, start+5*255)
	}
	// What is as deep as can be has no room for kids, nor is anything told of what they are.
	for _, e := range []string{`(dict "" 0)`, "(dict 0)", "(dict x)", "(let y 0 y)", "(fn (y Top) Top y)", "(fn (y) Top y)", "(+ 0 0)", "(+ + +)", "(if", "(let y", "(let", "(if x", "(iff x)"} {
		wantModel(t, g, deep(254, e))
	}
	const types = "(def f (x (where v "
	forms := func(many int, f string) string {
		return types + strings.Repeat("(and ", many) + f + strings.Repeat(")", many) + ")) Top x)"
	}
	wantWritten(t, forms(253, "true"))
	wantWritten(t, forms(253, "(or)"))
	wantWrong(t, forms(254, "true"), api.ErrDeep, len(types)+5*254)
	wantWrong(t, forms(253, "(int? v)"), api.ErrDeep, len(types)+5*253+6)
	wantWrong(t, forms(252, "(< (+ 0 v) 0)"), api.ErrDeep, len(types)+5*252+6)
	for _, f := range []string{"(< (* 0 v) 0)", "(is v (-> (y Int) Int))", "(= (get v v) v)"} {
		wantModel(t, g, forms(251, f))
		wantModel(t, g, forms(252, f))
		wantModel(t, g, forms(253, f))
	}
}

// At the end of the text nothing is too deep, or too much.
func TestEndsWhereDeepOrLong(t *testing.T) {
	const ahead = "(def f (x Top) Top "
	wantWrong(t, ahead+strings.Repeat("(not ", 255), api.ErrForm, len(ahead)+5*255)
	wantWrong(t, ahead+strings.Repeat("(not ", 255)+"(", api.ErrDeep, len(ahead)+5*255)
	wantWrong(t, ahead+strings.Repeat("(not ", 255)+"; (\n", api.ErrForm, len(ahead)+5*255+4)
	dict := ahead + "(dict " + strings.Repeat(`"" 0 `, 64)
	wantWrong(t, dict, api.ErrForm, len(dict))
	wantWrong(t, dict+`""`, api.ErrLong, len(dict))
}

func TestLists(t *testing.T) {
	for _, l := range []struct{ ahead, piece, behind string }{
		{"(def f (x Top) Top (dict ", `"a" x `, "))"},
		{"(def f (x Top) Top (dict ", `"" (dict) `, "))"},
		{"(def f (x (or ", "Int ", ")) Top x)"},
		{"(def f (x (and ", "(where v (and)) ", ")) Top x)"},
		{"(def f (x (where v (and ", "true ", "))) Top x)"},
		{"(def f (x (where v (or ", "(not (or)) ", "))) Top x)"},
	} {
		all := l.ahead + strings.Repeat(l.piece, 64)
		wantWritten(t, l.ahead+strings.Repeat(l.piece, 63)+l.behind)
		wantWritten(t, all+l.behind)
		for _, more := range []string{l.piece, l.piece + l.piece, "+ ", "( ", `"" `, "x "} {
			wantWrong(t, all+more+l.behind, api.ErrLong, len(all))
			wantWrong(t, all+more, api.ErrLong, len(all))
		}
	}
	for _, head := range []string{"or", "and"} {
		wantWrong(t, "(def f (x ("+head+")) Top x)", api.ErrForm, 11+len(head))
		wantWrong(t, "(def f (x ("+head+" Int)) Top x)", api.ErrForm, 15+len(head))
		wantWritten(t, "(def f (x ("+head+" Int Int)) Top x)")
	}
	wantWrong(t, `(def f (x Top) Top (dict "a"))`, api.ErrForm, 28)
	wantWrong(t, `(def f (x Top) Top (dict a 1))`, api.ErrForm, 25)
	wantWrong(t, `(def f (x Top) Top (dict (dict) 1))`, api.ErrForm, 25)
	// There is no most of defs, nor of what several lists have together.
	if tree := wantWritten(t, strings.Repeat("(def f (x Int) Int x)\n", 5000)); len(tree.Defs) != 5000 {
		t.Errorf("%d defs", len(tree.Defs))
	}
	wantWritten(t, "(def f (x Top) Top (dict "+strings.Repeat(`"" (dict `+strings.Repeat(`"" 0 `, 64)+")", 64)+"))")
}

// A token of another kind is no word, head, name or number, though its text is one's.
func TestTextsAreNoWords(t *testing.T) {
	wantWrong(t, `("def" f (x Top) Top x)`, api.ErrForm, 1)
	wantWrong(t, `(def "f" (x Top) Top x)`, api.ErrForm, 5)
	wantWrong(t, `(def f ("x" Top) Top x)`, api.ErrForm, 8)
	wantWrong(t, `(def f (x "Top") Top x)`, api.ErrForm, 10)
	wantWrong(t, `(def f (x Top) Top ("+" 1 1))`, api.ErrForm, 20)
	wantWrong(t, `(def f (x (where v "true")) Top x)`, api.ErrForm, 19)
	wantWrong(t, `(def f (x (where v (< v (* "1" v)))) Top x)`, api.ErrForm, 27)
	wantWrong(t, `(def f (x (where v (= v ("get" v v)))) Top x)`, api.ErrForm, 25)
	wantExpr(t, `"true"`, n(api.XStr, "true", "", 0))
}

func TestWord(t *testing.T) {
	for _, s := range []string{"x", "Z", "a_1", "Top", "Int", "main", "iff", "True", "de", "define", "not_", "nulL"} {
		if !parse.Word(s) {
			t.Errorf("Word of %q: false", s)
		}
	}
	kept := strings.Fields("def fn let if assert dict call not has get set and or is where true false null")
	for _, s := range append(kept, "", " ", "x?", "int?", "x y", " x", "x ", "1", "-1", "+", "->", "=", "\"x\"", "_", "_x", "(x)", "x;", "é", "x\x00", "x-y") {
		if parse.Word(s) {
			t.Errorf("Word of %q: true", s)
		}
	}
	for _, s := range kept {
		for _, other := range []string{s + "a", s + "?", s[1:], s[:len(s)-1], s + s, strings.ToUpper(s)} {
			if want := lex.Name(other) && other[len(other)-1] != '?' && !slices.Contains(kept, other); parse.Word(other) != want {
				t.Errorf("Word of %q: %v", other, !want)
			}
		}
	}
}

func TestErrors(t *testing.T) {
	for s, want := range map[string]api.Errno{"(def": api.ErrForm, "@": api.ErrForm, deep(300, "0"): api.ErrDeep} {
		_, err := parse.Parse(s)
		var f *api.Fault
		if err == nil || err.Error() != want.Error() || !errors.As(err, &f) || !errors.Is(err, want) {
			t.Fatalf("%.20q: %v", s, err)
		}
		told := api.Told(err)
		f.At, f.Code = 99, api.OK
		wantWrong(t, s, told.Code, told.At)
	}
}

func TestExamples(t *testing.T) {
	wantNodes(t, "(def main (x Int) Top x)", []int{3}, n(api.YTag, "Int", "", 13), n(api.YTag, "Top", "", 18), n(api.XVar, "x", "", 22), n(api.XDef, "main", "x", 0, 0, 1, 2))
	wantNodes(t, "", nil)
	wantWrong(t, "(def f (x Int) (is x Int) x)", api.ErrForm, 16)
	wantWrong(t, "(def f (x Int) Int", api.ErrForm, 18)
	wantWrong(t, strings.Repeat("(not", 300), api.ErrForm, 1)
}
