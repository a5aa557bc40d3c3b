package parse

import "litmus/api"

// shape is what a list with some head is: a node of that kind, with that Name (if none of the pieces tells it), made of what stands behind the head, a letter a piece.
type shape struct {
	kind   int
	name   string
	pieces string
}

// Letters of nodes, by what may stand there. A list's other pieces have letters that pieces alone tells.
const (
	aDef   = 'd'
	anExpr = 'e'
	aType  = 'T'
	aForm  = 'f'
	aTerm  = 't'
	anInt  = 'i'
	aText  = 's'
	arrow  = '>'
)

// lists is, by the letter of what may stand there, the shapes of lists by their heads.
func lists() map[byte]map[string]shape {
	toArrow := shape{api.YArrow, "", "(aT)T)"}
	get, set := shape{api.TGet, "", "tt)"}, shape{api.TSet, "", "ttt)"}
	return map[byte]map[string]shape{
		aDef:   {"def": {api.XDef, "", "n(aT)Te)"}},
		anExpr: exprs(),
		aType: {
			"where": {api.YWhere, "", "af)"},
			"->":    toArrow,
			"or":    {api.YOr, "", "TTY)"},
			"and":   {api.YAnd, "", "TTY)"},
		},
		arrow: {"->": toArrow},
		aForm: forms(),
		aTerm: {"get": get, "set": set},
		anInt: {
			"get": get,
			"set": set,
			"+":   {api.TAdd, "", "ii)"},
			"-":   {api.TSub, "", "ii)"},
			"*":   {api.TMul, "", "#i)"},
		},
	}
}

func exprs() map[string]shape {
	out := map[string]shape{
		"fn":     {api.XFn, "", "(aT)Te)"},
		"let":    {api.XLet, "", "aee)"},
		"if":     {api.XIf, "", "eee)"},
		"assert": {api.XAssert, "", "e)"},
		"call":   {api.XCall, "", "ee)"},
		"dict":   {api.XDict, "", "P)"},
		"set":    {api.XOp, "set", "eee)"},
	}
	for _, op := range []string{"not", "int?", "bool?", "str?", "dict?", "fun?", "null?"} {
		out[op] = shape{api.XOp, op, "e)"}
	}
	for _, op := range []string{"+", "-", "*", "<", "<=", "=", "has", "get"} {
		out[op] = shape{api.XOp, op, "ee)"}
	}
	return out
}

func forms() map[string]shape {
	return map[string]shape{
		"int?":  {api.FTag, "Int", "t)"},
		"bool?": {api.FTag, "Bool", "t)"},
		"str?":  {api.FTag, "Str", "t)"},
		"dict?": {api.FTag, "Dict", "t)"},
		"fun?":  {api.FTag, "Fun", "t)"},
		"null?": {api.FTag, "Null", "t)"},
		"<=":    {api.FLe, "", "ii)"},
		"<":     {api.FLt, "", "ii)"},
		"==":    {api.FSame, "", "ii)"},
		"=":     {api.FEq, "", "tt)"},
		"has":   {api.FHas, "", "tt)"},
		"and":   {api.FAnd, "", "F)"},
		"or":    {api.FOr, "", "F)"},
		"not":   {api.FNot, "", "f)"},
		"is":    {api.FIs, "", "t>)"},
	}
}
