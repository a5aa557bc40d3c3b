package node

import (
	"strings"

	"litmus/api"
	"litmus/lex"
)

// Name tells whether s is a bound name.
func Name(s string) bool {
	return lex.Name(s) && !strings.HasSuffix(s, "?") && !kept(s)
}

// kept tells whether s is a word of the language, which nothing is bound by.
func kept(s string) bool {
	switch s {
	case "def", "fn", "let", "if", "assert", "dict", "call", "not", "has", "get", "set", "and", "or", "is", "where", "true", "false", "null":
		return true
	}
	return false
}

func anyBytes(string) bool { return true }

func typeTag(s string) bool { return s == "Top" || valueTag(s) }

func valueTag(s string) bool {
	switch s {
	case "Int", "Bool", "Str", "Dict", "Fun", "Null":
		return true
	}
	return false
}

func op(s string) bool { return takes(s) > 0 }

// takes is how many kids the op s has; 0, if it is none.
func takes(s string) int {
	switch s {
	case "not", "int?", "bool?", "str?", "dict?", "fun?", "null?":
		return 1
	case "+", "-", "*", "<", "<=", "=", "has", "get":
		return 2
	case "set":
		return 3
	}
	return 0
}

func opKids(n api.Node) bool { return len(n.Kids) == takes(n.Name) }

func pairs(n api.Node) bool { return len(n.Kids)%2 == 0 && len(n.Kids) <= 2*api.MaxList }

// kidsFrom tells of a node whether it has so many kids at least, and no more than a list may have.
func kidsFrom(least int) func(api.Node) bool {
	return func(n api.Node) bool { return least <= len(n.Kids) && len(n.Kids) <= api.MaxList }
}
