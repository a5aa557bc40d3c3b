package parse_test

import (
	"strings"
	"testing"

	"litmus/api"
	"litmus/lex"
	"litmus/node"
	"litmus/parse"
)

// rules is, of each sign, the ways in which what it stands for is written, in signs.
type rules map[string][][]string

// grammar is the chapter's table in signs of its own: d, T, e, f, t, i, and Y (an arrow), S (a text alone) are nodes; WORD, NUMBER, TEXT are tokens, other signs are tokens as they stand; with .. behind it a sign's thing comes as often as it will. In each sign's first rule are the least levels.
func grammar() rules {
	const plain = "WORD | NUMBER | TEXT | true | false | null | "
	const terms = "( get t t ) | ( set t t t ) "
	out := rules{}
	for sign, ways := range map[string]string{
		"d": "( def WORD ( WORD T ) T e )",
		"S": "TEXT",
		"P": "S e",
		"Y": "( -> ( WORD T ) T )",
		"e": plain + `( fn ( WORD T ) T e ) | ( let WORD e e ) | ( if e e e ) | ( assert e ) | ( call e e ) | ( dict P.. ) | ( set e e e )
			| ( not e ) | ( int? e ) | ( bool? e ) | ( str? e ) | ( dict? e ) | ( fun? e ) | ( null? e )
			| ( + e e ) | ( - e e ) | ( * e e ) | ( < e e ) | ( <= e e ) | ( = e e ) | ( has e e ) | ( get e e )`,
		"T": "Top | Int | Bool | Str | Null | Dict | Fun | ( where WORD f ) | ( -> ( WORD T ) T ) | ( or T T T.. ) | ( and T T T.. )",
		"f": `true | false | ( int? t ) | ( bool? t ) | ( str? t ) | ( dict? t ) | ( fun? t ) | ( null? t )
			| ( <= i i ) | ( < i i ) | ( == i i ) | ( = t t ) | ( has t t ) | ( and f.. ) | ( or f.. ) | ( not f ) | ( is t Y )`,
		"t": plain + terms,
		"i": plain + terms + "| ( + i i ) | ( - i i ) | ( * NUMBER i )",
	} {
		for _, way := range strings.Split(ways, "|") {
			out[sign] = append(out[sign], strings.Fields(way))
		}
	}
	return out
}

// rest is what may yet stand behind what was read: a sign, and what follows it. Of a node's sign depth is the node's, of pieces that come again seen is how many were there.
type rest struct {
	sign        string
	depth, seen int
	next        *rest
}

// reading is all that may yet stand behind the tokens that were read, and what is wrong with what can't.
type reading struct {
	rules rules
	rests []*rest
	wrong api.Errno
}

// fit steps over one token from each of what may stand.
func (m *reading) fit(t api.Tok) {
	var out []*rest
	m.wrong = api.ErrForm
	for _, r := range m.rests {
		m.into(r, t, func(next *rest) { out = append(out, next) })
	}
	m.rests = out
}

// into tells put what may stand behind the token, where it may stand at the start of r.
func (m *reading) into(r *rest, t api.Tok, put func(*rest)) {
	if r == nil {
		return
	}
	if piece, ok := strings.CutSuffix(r.sign, ".."); ok {
		m.into(r.next, t, put)
		if r.seen == 64 && piece != "d" {
			if t.Kind != api.TokClose {
				m.wrong = api.ErrLong
			}
			return
		}
		if t.Kind != api.TokClose {
			m.into(&rest{piece, r.depth, 0, &rest{r.sign, r.depth, r.seen + 1, r.next}}, t, put)
		}
		return
	}
	ways, ok := m.rules[r.sign]
	if !ok {
		if is(r.sign, t) {
			put(r.next)
		}
		return
	}
	inner := r.depth + 1
	if r.sign == "P" {
		inner = r.depth
	} else if r.depth > 256 {
		m.wrong = api.ErrDeep
		return
	}
	for _, way := range ways {
		next := r.next
		for i := len(way) - 1; i >= 0; i-- {
			n := &rest{sign: way[i], depth: inner, next: next}
			if strings.HasSuffix(n.sign, "T..") {
				n.seen = 2
			}
			next = n
		}
		m.into(next, t, put)
	}
}

// is tells whether the token is one that the sign stands for.
func is(sign string, t api.Tok) bool {
	switch sign {
	case "WORD":
		return t.Kind == api.TokName && !strings.HasSuffix(t.Text, "?") && !strings.Contains(" def fn let if assert dict call not has get set and or is where true false null ", " "+t.Text+" ")
	case "NUMBER":
		return t.Kind == api.TokInt
	case "TEXT":
		return t.Kind == api.TokStr
	}
	return t.Kind != api.TokStr && (t.Text == sign || t.Kind == api.TokOpen && sign == "(" || t.Kind == api.TokClose && sign == ")")
}

// modelled is what is wrong with s first; OK, if it is a program.
func modelled(g rules, s string) api.Fault {
	toks, err := lex.Tokens(s)
	if err != nil {
		return api.Told(err)
	}
	m := reading{rules: g, rests: []*rest{{sign: "d..", depth: 1}}}
	for _, t := range toks {
		m.fit(t)
		if len(m.rests) == 0 {
			return api.Fault{Code: m.wrong, At: t.Pos}
		}
	}
	for _, r := range m.rests {
		if r != nil && r.sign == "d.." {
			return api.Fault{}
		}
	}
	return api.Fault{Code: api.ErrForm, At: len(s)}
}

// wantModel asks of s what the grammar says.
func wantModel(t *testing.T, g rules, s string) {
	t.Helper()
	want := modelled(g, s)
	if want.Code == api.OK {
		wantWritten(t, s)
		return
	}
	wantWrong(t, s, want.Code, want.At)
}

func wantWrong(t *testing.T, s string, code api.Errno, at int) {
	t.Helper()
	tree, err := parse.Parse(s)
	if got := api.Told(err); err == nil || got != (api.Fault{Code: code, At: at}) || tree.Nodes != nil || tree.Defs != nil {
		t.Errorf("Parse of %.300q: %v, %v; want %v at %d", s, tree, got, code, at)
	}
}

// wantWritten asks that s is a program, and that its tree is right, and just that which is written so.
func wantWritten(t *testing.T, s string) api.Tree {
	t.Helper()
	tree, err := parse.Parse(s)
	if err != nil || !node.Right(tree) {
		t.Errorf("Parse of %.300q: %v, %v", s, tree, api.Told(err))
		return api.Tree{}
	}
	want, _ := lex.Tokens(s)
	var got []api.Tok
	for _, d := range tree.Defs {
		got = append(got, written(tree, d)...)
	}
	if len(got) != len(want) {
		t.Errorf("Parse of %.300q: a tree of %d tokens, want %d", s, len(got), len(want))
		return tree
	}
	for i, w := range want {
		if got[i].Pos == inside {
			got[i].Pos = w.Pos
		}
		if got[i] != w {
			t.Errorf("Parse of %.300q: the tree's token %d is %v, want %v", s, i, got[i], w)
		}
	}
	return tree
}
