package lex

// textOf is the bytes of the text that stands at the start of s, and how long it is as it stands.
func textOf(s string) (string, int) {
	if s == "" || s[0] != '"' {
		return "", 0
	}
	var out []byte
	for at := 1; at < len(s); {
		if s[at] == '"' {
			return string(out), at + 1
		}
		b, long := item(s[at:])
		if long == 0 {
			return "", 0
		}
		out = append(out, b)
		at += long
	}
	return "", 0
}

// item is the byte that the item at the start of s, which has a byte, stands for, and how long it is; 0: it is none.
func item(s string) (byte, int) {
	switch {
	case !printed(s[0]):
		return 0, 0
	case s[0] != '\\':
		return s[0], 1
	case len(s) < 2:
		return 0, 0
	}
	switch s[1] {
	case '"', '\\':
		return s[1], 2
	case 'n':
		return '\n', 2
	case 'x':
		return hexItem(s)
	}
	return 0, 0
}

// hexItem is item of an s that begins with \x.
func hexItem(s string) (byte, int) {
	if len(s) < 4 {
		return 0, 0
	}
	high, low := hexDigit(s[2]), hexDigit(s[3])
	if high < 0 || low < 0 {
		return 0, 0
	}
	return byte(high<<4 | low), 4
}

// hexDigit is what b is as a digit, -1 if it is none; capitals are none.
func hexDigit(b byte) int {
	switch {
	case digit(b):
		return int(b - '0')
	case 'a' <= b && b <= 'f':
		return int(b-'a') + 10
	}
	return -1
}
