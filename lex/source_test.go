package lex_test

import (
	"errors"
	"regexp"
	"slices"
	"strings"
	"testing"

	"litmus/api"
	"litmus/lex"
)

// source hands out the same numbers at each run.
type source uint64

func (s *source) next() uint32 {
	*s = *s*6364136223846793005 + 1442695040888963407
	return uint32(*s >> 33)
}

func (s *source) below(n int) int { return int(s.next() % uint32(n)) }

// text is of any bytes, of those that Quote treats in their own way as often as not.
func (s *source) text() string {
	out := make([]byte, s.below(12))
	for i := range out {
		out[i] = byte(s.next())
		if s.next()%2 == 0 {
			out[i] = "\"\\\n\r\t x0f~\x7f\x1f\x00\xff"[s.below(14)]
		}
	}
	return string(out)
}

// token is one of any kind, with the place left out.
func (s *source) token() api.Tok {
	switch kind := s.below(6); kind {
	case api.TokInt:
		return api.Tok{Kind: kind, Text: []string{"0", "1", "-1", "10", "-90", "12345678901234567890"}[s.below(6)]}
	case api.TokStr:
		return api.Tok{Kind: kind, Text: s.text()}
	case api.TokName:
		return api.Tok{Kind: kind, Text: []string{"a", "Z", "int?", "a_1_", "Top", "x9?", "x_?"}[s.below(7)]}
	case api.TokSign:
		return api.Tok{Kind: kind, Text: []string{"+", "-", "*", "<", "<=", "=", "==", "->"}[s.below(8)]}
	default:
		return api.Tok{Kind: kind}
	}
}

// gap is at least one blank, or a comment that is closed.
func (s *source) gap() string {
	out := []string{" ", "\t", "\n", "\r", ";\n", "; (\"\x00\xff\\\n", ";;;\r 1\n"}[s.below(7)]
	for s.below(3) == 0 {
		out += s.gap()
	}
	return out
}

func written(t api.Tok) string {
	switch t.Kind {
	case api.TokOpen:
		return "("
	case api.TokClose:
		return ")"
	case api.TokStr:
		return lex.Quote(t.Text)
	}
	return t.Text
}

// model reads tokens by patterns of their own, the longest that there is.
type model struct{ blanks, mark, number, text, name, sign, behind *regexp.Regexp }

func newModel() model {
	at := func(p string) *regexp.Regexp {
		r := regexp.MustCompile(`^(?:` + p + `)`)
		r.Longest()
		return r
	}
	return model{
		blanks: at(`(?:[ \t\n\r]|;[^\n]*)*`), mark: at(`[()]`), number: at(`0|-?[1-9][0-9]*`),
		text: at(`"(?:[ !#-\[\]-~]|\\["\\n]|\\x[0-9a-f][0-9a-f])*"`),
		name: at(`[A-Za-z][A-Za-z0-9_]*\??`), sign: at(`\+|-|\*|<|<=|=|==|->`), behind: at(`[ \t\n\r();]|$`),
	}
}

// tokens is what the patterns say; at is -1, or where they say that no token is. Bytes above 7E are told as runes of one byte, so that patterns see bytes.
func (m model) tokens(s string) (out []api.Tok, at int) {
	s = bytesAsRunes(s)
	for at = len(m.blanks.FindString(s)); at < len(s); at += len(m.blanks.FindString(s[at:])) {
		rest := s[at:]
		if p := m.mark.FindString(rest); p != "" {
			out = append(out, api.Tok{Kind: strings.Index("()", p), Pos: at})
			at++
			continue
		}
		tok, found := m.kind(rest)
		if found == "" || !m.behind.MatchString(rest[len(found):]) {
			return nil, runesAhead(s, at)
		}
		tok.Pos = at
		out = append(out, tok)
		at += len(found)
	}
	for i := range out {
		out[i].Pos = runesAhead(s, out[i].Pos)
	}
	return out, -1
}

func (m model) kind(rest string) (api.Tok, string) {
	if p := m.number.FindString(rest); p != "" {
		return api.Tok{Kind: api.TokInt, Text: p}, p
	}
	if p := m.name.FindString(rest); p != "" {
		return api.Tok{Kind: api.TokName, Text: p}, p
	}
	if p := m.sign.FindString(rest); p != "" {
		return api.Tok{Kind: api.TokSign, Text: p}, p
	}
	p := m.text.FindString(rest)
	return api.Tok{Kind: api.TokStr, Text: meant(p)}, p
}

func meant(quoted string) string {
	var out []byte
	for i := 1; i < len(quoted)-1; i++ {
		if quoted[i] != '\\' {
			out = append(out, quoted[i])
			continue
		}
		i++
		switch quoted[i] {
		case 'n':
			out = append(out, 10)
		case 'x':
			const digits = "0123456789abcdef"
			out = append(out, byte(strings.IndexByte(digits, quoted[i+1])*16+strings.IndexByte(digits, quoted[i+2])))
			i += 2
		default:
			out = append(out, quoted[i])
		}
	}
	return string(out)
}

func bytesAsRunes(s string) string {
	var out []rune
	for _, b := range []byte(s) {
		out = append(out, rune(b))
	}
	return string(out)
}

func runesAhead(s string, at int) int { return len([]rune(s[:at])) }

func wantTokens(t *testing.T, s string, want ...api.Tok) {
	t.Helper()
	got, err := lex.Tokens(s)
	if err != nil || !slices.Equal(got, want) {
		t.Errorf("Tokens of %q: %v, %v; want %v", s, got, err, want)
	}
}

func wantWrong(t *testing.T, s string, at int) {
	t.Helper()
	got, err := lex.Tokens(s)
	if err == nil {
		t.Errorf("Tokens of %q: %v, no error; want one at %d", s, got, at)
		return
	}
	var f *api.Fault
	if !errors.As(err, &f) || *f != (api.Fault{Code: api.ErrForm, At: at}) {
		t.Errorf("Tokens of %q: error %v with %v, want ErrForm at %d", s, err, f, at)
	}
	if got != nil {
		t.Errorf("Tokens of %q: %v beside an error", s, got)
	}
	if !errors.Is(err, api.ErrForm) || api.Told(err) != (api.Fault{Code: api.ErrForm, At: at}) {
		t.Errorf("Tokens of %q: told %v, want ErrForm at %d", s, api.Told(err), at)
	}
}

// wantModel asks for what the patterns say.
func wantModel(t *testing.T, m model, s string) {
	t.Helper()
	if want, at := m.tokens(s); at < 0 {
		wantTokens(t, s, want...)
	} else {
		wantWrong(t, s, at)
	}
}

// eachText goes through the texts of up to most pieces.
func eachText(pieces []string, most int, do func(string)) {
	var grow func(s string, left int)
	grow = func(s string, left int) {
		do(s)
		for i := 0; left > 0 && i < len(pieces); i++ {
			grow(s+pieces[i], left-1)
		}
	}
	grow("", most)
}
