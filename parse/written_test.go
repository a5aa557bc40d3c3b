package parse_test

import (
	"litmus/api"
	"litmus/lex"
)

// inside is the place of a token that is not its node's first one: the node doesn't tell it.
const inside = -1

// written is the tokens of the node i; the first has the node's place.
func written(t api.Tree, i int) []api.Tok {
	n := t.Nodes[i]
	toks := func(s string) []api.Tok {
		out, _ := lex.Tokens(s)
		for i := range out {
			out[i].Pos = inside
		}
		return out
	}
	var out []api.Tok
	switch n.Kind {
	case api.XInt, api.XVar, api.YTag:
		out = toks(n.Name)
	case api.XStr:
		out = toks(lex.Quote(n.Name))
	case api.XTrue, api.FTrue:
		out = toks("true")
	case api.XFalse, api.FFalse:
		out = toks("false")
	case api.XNull:
		out = toks("null")
	case api.XFn, api.YArrow, api.XDef:
		out = append(toks("("+head(n)+"("+n.Arg), written(t, n.Kids[0])...)
		out = append(out, toks(")")...)
		for _, k := range n.Kids[1:] {
			out = append(out, written(t, k)...)
		}
		out = append(out, toks(")")...)
	default:
		out = toks("(" + head(n) + " " + n.Arg)
		for _, k := range n.Kids {
			out = append(out, written(t, k)...)
		}
		out = append(out, toks(")")...)
	}
	out[0].Pos = n.Pos
	return out
}

// head is what stands behind the parenthesis of a list.
func head(n api.Node) string {
	switch n.Kind {
	case api.XOp:
		return n.Name
	case api.XDef:
		return "def " + n.Name
	case api.FTag:
		return map[string]string{"Int": "int?", "Bool": "bool?", "Str": "str?", "Dict": "dict?", "Fun": "fun?", "Null": "null?"}[n.Name]
	case api.TMul:
		return "* " + n.Name
	}
	return map[int]string{
		api.XFn: "fn", api.XLet: "let", api.XIf: "if", api.XAssert: "assert", api.XDict: "dict", api.XCall: "call",
		api.YWhere: "where", api.YArrow: "->", api.YOr: "or", api.YAnd: "and",
		api.FLe: "<=", api.FLt: "<", api.FSame: "==", api.FEq: "=", api.FHas: "has", api.FAnd: "and", api.FOr: "or", api.FNot: "not", api.FIs: "is",
		api.TGet: "get", api.TSet: "set", api.TAdd: "+", api.TSub: "-",
	}[n.Kind]
}
