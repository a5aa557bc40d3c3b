package lex

import "litmus/api"

// reader tells of the token of one kind that begins at at its text, and how long it is as it stands; 0, if there is none.
type reader func(at int) (text string, long int)

// readers is the row of what reads s, each at its kind's place. The row is tried from its start: numbers come ahead of signs, for a - with a digit behind it begins a number.
func readers(s string) []reader {
	just := func(long func(string) int) reader {
		return func(at int) (string, int) {
			n := long(s[at:])
			return s[at : at+n], n
		}
	}
	mark := func(b byte) reader {
		return func(at int) (string, int) {
			if s[at] == b {
				return "", 1
			}
			return "", 0
		}
	}
	return []reader{
		api.TokOpen:  mark('('),
		api.TokClose: mark(')'),
		api.TokInt:   just(numberLong),
		api.TokStr:   func(at int) (string, int) { return textOf(s[at:]) },
		api.TokName:  just(nameLong),
		api.TokSign:  just(signLong),
	}
}

// numberLong is how many bytes at the start of s are a number.
func numberLong(s string) int {
	sign := 0
	if s != "" && s[0] == '-' {
		sign = 1
	}
	end := sign
	for end < len(s) && digit(s[end]) {
		end++
	}
	switch {
	case end == sign:
		return 0
	case s[sign] != '0':
		return end
	case sign == 0:
		return 1
	}
	return 0
}

// nameLong is how many bytes at the start of s are a name.
func nameLong(s string) int {
	if s == "" || !letter(s[0]) {
		return 0
	}
	end := 1
	for end < len(s) && (letter(s[end]) || digit(s[end]) || s[end] == '_') {
		end++
	}
	if end < len(s) && s[end] == '?' {
		end++
	}
	return end
}

// signLong is how many bytes at the start of s are a sign, the longest that can be.
func signLong(s string) int {
	if len(s) >= 2 {
		switch s[:2] {
		case "<=", "==", "->":
			return 2
		}
	}
	if s != "" {
		switch s[0] {
		case '+', '-', '*', '<', '=':
			return 1
		}
	}
	return 0
}

func digit(b byte) bool { return '0' <= b && b <= '9' }

func letter(b byte) bool { return 'A' <= b && b <= 'Z' || 'a' <= b && b <= 'z' }

func printed(b byte) bool { return 0x20 <= b && b <= 0x7e }
