package lex_test

import (
	"slices"
	"testing"

	"litmus/api"
	"litmus/lex"
)

// P5.3

func TestWrittenIsReadAgain(t *testing.T) {
	from := source(53)
	for range 3000 {
		toks := make([]api.Tok, from.below(9))
		for i := range toks {
			toks[i] = from.token()
		}
		wantTokens(t, laid(&from, toks, true), toks...)
	}
}

// Other blanks between the tokens of a text change nothing but places.
func TestBlanksChangePlacesAlone(t *testing.T) {
	from := source(57)
	for range 3000 {
		toks := make([]api.Tok, from.below(9))
		for i := range toks {
			toks[i] = from.token()
		}
		one, err := lex.Tokens(laid(&from, slices.Clone(toks), false))
		other, err2 := lex.Tokens(laid(&from, slices.Clone(toks), true))
		if err != nil || err2 != nil || !slices.Equal(unplaced(one), unplaced(other)) {
			t.Fatalf("%v: %v, %v; %v, %v", toks, one, err, other, err2)
		}
	}
}

// laid writes the tokens one behind the other, and their places into them. Blanks stand where the text needs them, and elsewhere if they are asked for.
func laid(from *source, toks []api.Tok, wide bool) string {
	s := ""
	for i := range toks {
		if wide && from.below(2) == 0 || i > 0 && joined(toks[i-1], toks[i]) {
			s += from.gap()
		}
		toks[i].Pos = len(s)
		s += written(toks[i])
	}
	if wide && from.below(2) == 0 {
		s += from.gap()
	}
	return s
}

func joined(a, b api.Tok) bool { return !mark(a) && !mark(b) }

func mark(t api.Tok) bool { return t.Kind == api.TokOpen || t.Kind == api.TokClose }

func unplaced(toks []api.Tok) []api.Tok {
	out := slices.Clone(toks)
	for i := range out {
		out[i].Pos = 0
	}
	return out
}

// What is answered is the caller's, and the same again.
func TestAnswersAreNew(t *testing.T) {
	const s = `(a "b\n" 12 <= x?)`
	first, err := lex.Tokens(s)
	if err != nil {
		t.Fatal(err)
	}
	kept := slices.Clone(first)
	for i := range first {
		first[i] = api.Tok{Kind: 9, Text: "changed", Pos: -1}
	}
	wantTokens(t, s, kept...)
	_, one := lex.Tokens("@")
	_, two := lex.Tokens("@")
	if one == two {
		t.Error("two calls answer one error")
	}
}
