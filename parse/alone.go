package parse

import "litmus/api"

// alone tells of a token which node it is by itself; false, if none.
type alone func(api.Tok) (api.Node, bool)

// plain is alone of exprs, terms and ints.
func plain(t api.Tok) (api.Node, bool) {
	switch t.Kind {
	case api.TokInt:
		return api.Node{Kind: api.XInt, Name: t.Text}, true
	case api.TokStr:
		return api.Node{Kind: api.XStr, Name: t.Text}, true
	case api.TokName:
		return named(t.Text)
	}
	return api.Node{}, false
}

func named(s string) (api.Node, bool) {
	switch s {
	case "true":
		return api.Node{Kind: api.XTrue}, true
	case "false":
		return api.Node{Kind: api.XFalse}, true
	case "null":
		return api.Node{Kind: api.XNull}, true
	}
	if !Word(s) {
		return api.Node{}, false
	}
	return api.Node{Kind: api.XVar, Name: s}, true
}

func text(t api.Tok) (api.Node, bool) {
	if t.Kind != api.TokStr {
		return api.Node{}, false
	}
	return plain(t)
}

func tag(t api.Tok) (api.Node, bool) {
	if t.Kind == api.TokName {
		switch t.Text {
		case "Top", "Int", "Bool", "Str", "Null", "Dict", "Fun":
			return api.Node{Kind: api.YTag, Name: t.Text}, true
		}
	}
	return api.Node{}, false
}

func truth(t api.Tok) (api.Node, bool) {
	if t.Kind == api.TokName {
		switch t.Text {
		case "true":
			return api.Node{Kind: api.FTrue}, true
		case "false":
			return api.Node{Kind: api.FFalse}, true
		}
	}
	return api.Node{}, false
}

// none is alone of what is a list always.
func none(api.Tok) (api.Node, bool) { return api.Node{}, false }
