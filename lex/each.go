package lex

import (
	"iter"

	"litmus/api"
)

// each goes through the tokens of s; behind the first that is wrong, told by an error, comes none.
func each(s string) iter.Seq2[api.Tok, error] {
	return func(yield func(api.Tok, error) bool) {
		row := readers(s)
		for at := blanksEnd(s, 0); at < len(s); {
			t, end := first(row, at)
			if end == at || !parted(t.Kind, s[end:]) {
				yield(api.Tok{}, wrongAt(at))
				return
			}
			if !yield(t, nil) {
				return
			}
			at = blanksEnd(s, end)
		}
	}
}

// first is the token at at, of the first kind that tells one, and where it ends; at, if there is none.
func first(row []reader, at int) (api.Tok, int) {
	for kind, read := range row {
		if text, long := read(at); long > 0 {
			return api.Tok{Kind: kind, Text: text, Pos: at}, at + long
		}
	}
	return api.Tok{}, at
}

// parted tells whether rest may stand behind a token of that kind.
func parted(kind int, rest string) bool {
	if kind == api.TokOpen || kind == api.TokClose || rest == "" {
		return true
	}
	switch rest[0] {
	case '(', ')', ';':
		return true
	}
	return blank(rest[0])
}

// blanksEnd is where, from at on, the first byte stands that is neither a blank nor of a comment.
func blanksEnd(s string, at int) int {
	for at < len(s) {
		switch {
		case blank(s[at]):
			at++
		case s[at] == ';':
			// The 0A that ends a comment is a blank: it may be left to the next turn.
			for at < len(s) && s[at] != '\n' {
				at++
			}
		default:
			return at
		}
	}
	return at
}

func blank(b byte) bool { return b == ' ' || b == '\t' || b == '\n' || b == '\r' }
