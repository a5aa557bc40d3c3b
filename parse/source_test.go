package parse_test

import (
	"strings"

	"litmus/lex"
)

// source hands out the same numbers at each run.
type source uint64

func (s *source) next() uint32 {
	*s = *s*6364136223846793005 + 1442695040888963407
	return uint32(*s >> 33)
}

func (s *source) below(n int) int { return int(s.next() % uint32(n)) }

func (s *source) oneOf(l ...string) string { return l[s.below(len(l))] }

// program is the tokens of a right program, as they stand in a text.
func (s *source) program(g rules) []string {
	var out []string
	for range s.below(4) {
		out = append(out, s.derived(g, "d", 2+s.below(5))...)
	}
	return out
}

// derived is tokens that the sign stands for, with about so many levels.
func (s *source) derived(g rules, sign string, levels int) []string {
	if piece, ok := strings.CutSuffix(sign, ".."); ok {
		var out []string
		for range s.below(4) {
			out = append(out, s.derived(g, piece, levels)...)
		}
		return out
	}
	switch sign {
	case "WORD":
		return []string{s.oneOf("x", "v", "Int", "a_1", "Top", "main", "B9", "orr")}
	case "NUMBER":
		return []string{s.oneOf("0", "7", "-1", "120", "-98765432109876543210")}
	case "TEXT":
		return []string{lex.Quote(s.oneOf("", "a", "def", "(", "a;b", "\x00\n\"", "\xff\x80 ", "1"))}
	}
	all := g[sign]
	if all == nil {
		return []string{sign}
	}
	way := all[s.below(len(all))]
	if levels <= 0 {
		way = all[0]
	}
	var out []string
	for _, sign := range way {
		out = append(out, s.derived(g, sign, levels-1)...)
	}
	return out
}

// laid is a text with just these tokens, and their places. Gaps stand where the text needs them, and elsewhere if they are asked for.
func (s *source) laid(toks []string, wide bool) (string, []int) {
	var places []int
	out := ""
	for i, t := range toks {
		if wide && s.below(3) == 0 || i > 0 && !mark(toks[i-1]) && !mark(t) {
			out += s.oneOf(" ", "\n", "\t", "\r", " \n ", ";(\n", ";\"\xff\n", " ; c ) \n\t")
		}
		places = append(places, len(out))
		out += t
	}
	if wide {
		out += s.oneOf("", " ", "\n", ";", "; (", ";\n")
	}
	return out, places
}

func mark(t string) bool { return t == "(" || t == ")" }

// changed is toks, but for one or two that are dropped, doubled, put elsewhere, or others; or toks as far as some place.
func (s *source) changed(toks []string) []string {
	out := append([]string{}, toks...)
	for range 1 + s.below(2) {
		if len(out) == 0 {
			return []string{s.anyToken()}
		}
		i, j := s.below(len(out)), s.below(len(out))
		switch s.below(6) {
		case 0:
			out = append(out[:i], out[i+1:]...)
		case 1:
			out = append(out[:i+1], out[i:]...)
		case 2:
			out[i], out[j] = out[j], out[i]
		case 3:
			out[i] = s.anyToken()
		case 4:
			out = append(out[:i+1], out[i:]...)
			out[i] = s.anyToken()
		default:
			out = out[:i]
		}
	}
	return out
}

func (s *source) anyToken() string {
	all := vocabulary()
	return all[s.below(len(all))]
}

// vocabulary is a token of each sort that the grammar tells from others.
func vocabulary() []string {
	return strings.Fields(`( ) 0 -7 "" "if" "Int" "+" x v def fn let if assert dict call not has get set and or is where true false null
		Top Int Bool Str Null Dict Fun int? bool? str? dict? fun? null? Top? x? + - * < <= = == ->`)
}
