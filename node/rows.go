package node

import (
	"iter"

	"litmus/api"
	"litmus/lex"
)

// row is what there can be of a kind. Without a name, there is no Name; without a many, there are just as many kids as parts.
type row struct {
	word  string
	name  func(string) bool
	binds bool
	many  func(api.Node) bool
	parts []part
}

// part is what a kid must be: one of the sort, and of just that kind, if it is not anyKind.
type part struct{ sort, kind int }

const anyKind = -1

func (p part) fits(kind int) bool {
	return Is(kind, p.sort) && (p.kind == anyKind || p.kind == kind)
}

// rows is the table of kinds. It is made anew for who asks, since nothing stands from call to call.
func rows() map[int]row {
	e, y, f, t, i := part{Expr, anyKind}, part{Type, anyKind}, part{Form, anyKind}, part{Term, anyKind}, part{Int, anyKind}
	key, arrow := part{Expr, api.XStr}, part{Type, api.YArrow}
	return map[int]row{
		api.XInt:    {name: lex.Number},
		api.XStr:    {name: anyBytes},
		api.XTrue:   {word: "true"},
		api.XFalse:  {word: "false"},
		api.XNull:   {word: "null"},
		api.XVar:    {name: Name},
		api.XFn:     {word: "fn", binds: true, parts: []part{y, y, e}},
		api.XLet:    {word: "let", binds: true, parts: []part{e, e}},
		api.XIf:     {word: "if", parts: []part{e, e, e}},
		api.XAssert: {word: "assert", parts: []part{e}},
		api.XDict:   {word: "dict", many: pairs, parts: []part{key, e}},
		api.XCall:   {word: "call", parts: []part{e, e}},
		api.XOp:     {name: op, many: opKids, parts: []part{e}},
		api.XDef:    {word: "def", name: Name, binds: true, parts: []part{y, y, e}},
		api.YTag:    {name: typeTag},
		api.YWhere:  {word: "where", binds: true, parts: []part{f}},
		api.YArrow:  {word: "->", binds: true, parts: []part{y, y}},
		api.YOr:     {word: "or", many: kidsFrom(2), parts: []part{y}},
		api.YAnd:    {word: "and", many: kidsFrom(2), parts: []part{y}},
		api.FTrue:   {word: "true"},
		api.FFalse:  {word: "false"},
		api.FTag:    {name: valueTag, parts: []part{t}},
		api.FLe:     {word: "<=", parts: []part{i, i}},
		api.FLt:     {word: "<", parts: []part{i, i}},
		api.FSame:   {word: "==", parts: []part{i, i}},
		api.FEq:     {word: "=", parts: []part{t, t}},
		api.FHas:    {word: "has", parts: []part{t, t}},
		api.FAnd:    {word: "and", many: kidsFrom(0), parts: []part{f}},
		api.FOr:     {word: "or", many: kidsFrom(0), parts: []part{f}},
		api.FNot:    {word: "not", parts: []part{f}},
		api.FIs:     {word: "is", parts: []part{t, arrow}},
		api.TGet:    {word: "get", parts: []part{t, t}},
		api.TSet:    {word: "set", parts: []part{t, t, t}},
		api.TAdd:    {word: "+", parts: []part{i, i}},
		api.TSub:    {word: "-", parts: []part{i, i}},
		api.TMul:    {word: "*", name: lex.Number, parts: []part{i}},
	}
}

// allows tells whether n's Name, Arg, and how many kids it has, are what the row says.
func (r row) allows(n api.Node) bool {
	return r.allowsName(n.Name) && r.allowsArg(n.Arg) && r.allowsKids(n)
}

func (r row) allowsName(s string) bool {
	if r.name == nil {
		return s == ""
	}
	return r.name(s)
}

func (r row) allowsArg(s string) bool {
	if r.binds {
		return Name(s)
	}
	return s == ""
}

func (r row) allowsKids(n api.Node) bool {
	if r.many == nil {
		return len(n.Kids) == len(r.parts)
	}
	return r.many(n)
}

// each goes through the kids of a node that the row allows, each with what it must be: where there are more kids than parts, the parts come again.
func (r row) each(n api.Node) iter.Seq2[int, part] {
	return func(yield func(int, part) bool) {
		for i, kid := range n.Kids {
			if !yield(kid, r.parts[i%len(r.parts)]) {
				return
			}
		}
	}
}
