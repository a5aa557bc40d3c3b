package node_test

import (
	"slices"
	"strings"

	"litmus/api"
)

// source hands out the same numbers at each run.
type source uint64

func (s *source) next() uint32 {
	*s = *s*6364136223846793005 + 1442695040888963407
	return uint32(*s >> 33)
}

func (s *source) below(n int) int { return int(s.next() % uint32(n)) }

func (s *source) oneOf(l ...string) string { return l[s.below(len(l))] }

func (s *source) word() string { return s.oneOf("x", "v", "Int", "a_1", "Top", "main", "B9", "orr") }

// program is defs that are right, of nodes of every kind.
func (s *source) program(m model) []branch {
	out := make([]branch, s.below(4))
	for i := range out {
		out[i] = s.grown(m, api.XDef, 2+s.below(5))
	}
	return out
}

// grown is a node of that kind, right, with about so many levels.
func (s *source) grown(m model, kind, levels int) branch {
	l := m[kind]
	b := branch{kind: kind, name: s.name(l.names)}
	if l.arg {
		b.arg = s.word()
	}
	letters := strings.Repeat(l.kids, s.often(l, b.name))
	for i := range len(letters) {
		b.kids = append(b.kids, s.grown(m, s.kind(m, letters[i], levels), levels-1))
	}
	return b
}

func (s *source) name(names string) string {
	switch names {
	case "":
		return ""
	case "#":
		return s.oneOf("0", "7", "-1", "120", "-98765432109876543210")
	case "$":
		return s.oneOf("", "a", "def", "a?", "\x00\n\"", "\xff\x80 ", "1")
	case "!":
		return s.word()
	}
	return s.oneOf(strings.Fields(names)...)
}

func (s *source) often(l line, name string) int {
	switch {
	case l.kind != api.XOp && l.low == l.high:
		return 1
	case l.kind != api.XOp:
		return l.low + s.below(4)
	case strings.HasSuffix(name, "?") || name == "not":
		return 1
	case name == "set":
		return 3
	}
	return 2
}

// kind is one that the letter stands for, without kids, if there are no levels left.
func (s *source) kind(m model, letter byte, levels int) int {
	l := slices.Clone(kinds(letter))
	if levels <= 0 {
		if leaves := slices.DeleteFunc(slices.Clone(l), func(k int) bool { return m[k].kids != "" }); len(leaves) > 0 {
			l = leaves
		}
	}
	return l[s.below(len(l))]
}
