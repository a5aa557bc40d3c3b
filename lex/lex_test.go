package lex_test

import (
	"errors"
	"strings"
	"testing"

	"litmus/api"
	"litmus/lex"
)

func open(at int) api.Tok { return api.Tok{Kind: api.TokOpen, Pos: at} }
func shut(at int) api.Tok { return api.Tok{Kind: api.TokClose, Pos: at} }
func number(text string, at int) api.Tok {
	return api.Tok{Kind: api.TokInt, Text: text, Pos: at}
}
func text(text string, at int) api.Tok { return api.Tok{Kind: api.TokStr, Text: text, Pos: at} }
func name(text string, at int) api.Tok { return api.Tok{Kind: api.TokName, Text: text, Pos: at} }
func sign(text string, at int) api.Tok { return api.Tok{Kind: api.TokSign, Text: text, Pos: at} }

// P5.1

func TestNoTokens(t *testing.T) {
	for _, s := range []string{"", " ", "\t\n\r ", ";", "; all of it (\x00\xff\"", ";\n", "\n;;\n ;(\n\r"} {
		wantTokens(t, s)
	}
}

func TestNumbers(t *testing.T) {
	for _, s := range []string{"0", "9", "10", "-1", "-10", "1000000000000000000000", "-98765432109876543210987654321"} {
		wantTokens(t, s, number(s, 0))
		wantTokens(t, "("+s+")"+s+";", open(0), number(s, 1), shut(1+len(s)), number(s, 2+len(s)))
	}
	for _, s := range []string{"00", "01", "-0", "-00", "-01", "-0 ", "1a", "1_", "1?", "1-", "1-2", "1\"\"", "1+", "0x1", "1.5", "1,", "--1", "+1", "->1", "1\x00", "1\v", "1\f", "1\x80", "١"} {
		wantWrong(t, s, 0)
		wantWrong(t, "(1 "+s+" )", 3)
	}
}

func TestTexts(t *testing.T) {
	for token, bytes := range map[string]string{
		`""`: "", `" "`: " ", `"~"`: "~", `"\""`: `"`, `"\\"`: `\`, `"\n"`: "\n", `"\\n"`: `\n`, `"\x00"`: "\x00", `"\xff\x7f"`: "\xff\x7f", `"\x41\x0a\x22\x5c"`: "A\n\"\\",
		`"a;b(c) 1"`: "a;b(c) 1", `"\x9ag"`: "\x9ag", `"\x123"`: "\x123", `"'!#[]^"`: "'!#[]^", `"\\\\\""`: `\\"`,
	} {
		wantTokens(t, token, text(bytes, 0))
		wantTokens(t, "x "+token+")", name("x", 0), text(bytes, 2), shut(2+len(token)))
	}
	for _, s := range []string{
		`"`, `"a`, `"\"`, `"\`, `"\x`, `"\x"`, `"\x0"`, `"\x0`, `"\x00`, `"\xA0"`, `"\x0A"`, `"\xg0"`, `"\x0g"`, `"\x/0"`, `"\x0:"`, "\"\\x0`\"", `"\t"`, `"\r"`, `"\a"`, `"\N"`, `"\X00"`, `"\ "`, `"\'"`, `"\u0041"`,
		"\"\n\"", "\"\t\"", "\"\r\"", "\"\x1f\"", "\"\x00\"", "\"\x7f\"", "\"\x80\"", "\"\xff\"", "\"é\"", "\"\\\n\"",
		`"a""b"`, `""a`, `""1`, `""-`, "\"\"\v", "\"\"\xc2\xa0",
	} {
		wantWrong(t, s, 0)
		wantWrong(t, "(a\n"+s, 3)
	}
}

func TestNames(t *testing.T) {
	for _, s := range []string{"a", "z", "A", "Z", "a0", "a9z", "aZ_", "a_", "a__1", "int?", "a?", "a_?", "a1?", "if", "Top"} {
		wantTokens(t, s, name(s, 0))
		wantTokens(t, s+"("+s+")"+s+";"+s, name(s, 0), open(len(s)), name(s, len(s)+1), shut(2*len(s)+1), name(s, 2*len(s)+2))
	}
	for _, s := range []string{"_", "_a", "?", "a??", "a?b", "a?1", "a?_", "a-", "a+b", "a=b", "a<b", "a->b", "a.b", "a'", "a\"\"", "aé", "é", "@", "[", "`", "{", "a@", "a[", "a`", "a{", "a/", "a:"} {
		wantWrong(t, s, 0)
		wantWrong(t, "( )"+s, 3)
	}
}

func TestSigns(t *testing.T) {
	for _, s := range []string{"+", "-", "*", "<", "<=", "=", "==", "->"} {
		wantTokens(t, s, sign(s, 0))
		wantTokens(t, "("+s+"("+s+")"+s+"\r"+s+";", open(0), sign(s, 1), open(1+len(s)), sign(s, 2+len(s)), shut(2+2*len(s)), sign(s, 3+2*len(s)), sign(s, 4+3*len(s)))
	}
	for _, s := range []string{"=<", "===", "<==", "=>", ">", ">=", "<>", "<-", "-->", "->>", "-<", "++", "+-", "-+", "**", "--", "-a", "-\"\"", "+a", "<a", "-?", "/", "!", "!=", "&", "|", "%", "^", "~", ",", ".", ":", "'", "\\", "]", "$", "#"} {
		wantWrong(t, s, 0)
		wantWrong(t, " \n\t"+s, 3)
	}
}

func TestPlaces(t *testing.T) {
	wantTokens(t, "(if x 1 -2)", open(0), name("if", 1), name("x", 4), number("1", 6), number("-2", 8), shut(10))
	wantTokens(t, "\n\r ;\xff;(\n\t a ;", name("a", 10))
	wantTokens(t, "a\nb\rc\td e", name("a", 0), name("b", 2), name("c", 4), name("d", 6), name("e", 8))
	wantTokens(t, `"\x00\n" b`, text("\x00\n", 0), name("b", 9))
	wantTokens(t, "())(", open(0), shut(1), shut(2), open(3))
	wantTokens(t, "a;b\rc\nd", name("a", 0), name("d", 6))
}

// The first that is wrong is told, whatever stands ahead of it or behind it.
func TestFirstWrong(t *testing.T) {
	wantWrong(t, "a b@ c", 2)
	wantWrong(t, "a @b 01 \"", 2)
	wantWrong(t, "(a \"b\" \"c", 7)
	wantWrong(t, "; \"\n \xff", 5)
	wantWrong(t, "x \x00", 2)
	wantWrong(t, "x \v y", 2)
	wantWrong(t, ")))-0", 3)
	wantWrong(t, "\xef\xbb\xbfa", 0)
	wantWrong(t, "a\xa0b", 0)
}

// Every text of a few bytes is read as patterns read it.
func TestShortTexts(t *testing.T) {
	m := newModel()
	eachText([]string{"(", ")", `"`, `\`, "x", "n", "0", "1", "-", "?", "_", "<", "=", ">", ";", "\n", " ", "\x80"}, 4, func(s string) { wantModel(t, m, s) })
	for b := range 256 {
		one := string([]byte{byte(b)})
		for _, s := range []string{one, "a" + one, "1" + one, "-" + one, `"` + one + `"`, `"\` + one + `"`, `"\x` + one + `0"`, `"\x0` + one + `"`, `""` + one, ";" + one, "(" + one, "<" + one, "a " + one + " b", "a;" + one + "\nb"} {
			wantModel(t, m, s)
		}
	}
}

func TestRandomTexts(t *testing.T) {
	m, from := newModel(), source(51)
	pieces := []string{"(", ")", `"a"`, `"`, `"\x0f"`, `"\n\\\""`, "12", "-7", "0", "-0", "name", "a?", "if", "+", "->", "<=", "=", "-", ";c\n", ";", " ", " ", " ", "\n", "\t", "\r", "\xff", "@", "_"}
	for range 20000 {
		s := ""
		for range from.below(12) {
			s += pieces[from.below(len(pieces))]
		}
		wantModel(t, m, s)
	}
}

// P5.2

func TestQuote(t *testing.T) {
	for text, want := range map[string]string{
		"": `""`, "a": `"a"`, `"`: `"\""`, `\`: `"\\"`, "\n": `"\n"`, "\r": `"\x0d"`, "\t": `"\x09"`, "\x00": `"\x00"`, "\x1f": `"\x1f"`, " ": `" "`, "~": `"~"`, "\x7f": `"\x7f"`, "\x80": `"\x80"`, "\xff": `"\xff"`,
		"é": `"\xc3\xa9"`, `\n`: `"\\n"`, `\x41`: `"\\x41"`, "a\nb\"c;": `"a\nb\"c;"`, "'?/ ": `"'?/ "`, "\xab\xcd\xef": `"\xab\xcd\xef"`,
	} {
		if got := lex.Quote(text); got != want {
			t.Errorf("Quote of %q: %s, want %s", text, got, want)
		}
	}
}

func TestQuoteOfBytes(t *testing.T) {
	for b := range 256 {
		s := string([]byte{byte(b)})
		want := 6
		switch {
		case b == 0x22 || b == 0x5c || b == 0x0a:
			want = 4
		case 0x20 <= b && b <= 0x7e:
			want = 3
		}
		if got := lex.Quote(s); len(got) != want {
			t.Errorf("Quote of %q: %s, want %d bytes", s, got, want)
		}
		wantTokens(t, lex.Quote(s), text(s, 0))
		wantTokens(t, lex.Quote(s+s), text(s+s, 0))
	}
}

func TestName(t *testing.T) {
	for _, s := range []string{"a", "Z", "int?", "a_9", "x?", "def", "true"} {
		if !lex.Name(s) {
			t.Errorf("Name of %q: false", s)
		}
	}
	for _, s := range []string{"", " ", " a", "a ", "a b", "a;", "(a)", "a)", "1", "-", "_", "_a", "?", "a??", "?a", "a?b", "a-b", "\"a\"", "é", "a\n", "a\x00", "1a", "+"} {
		if lex.Name(s) {
			t.Errorf("Name of %q: true", s)
		}
	}
}

func TestNumber(t *testing.T) {
	for _, s := range []string{"0", "7", "-7", "10", "-100", "123456789012345678901234567890"} {
		if !lex.Number(s) {
			t.Errorf("Number of %q: false", s)
		}
	}
	for _, s := range []string{"", " ", "-", "-0", "00", "01", "-01", "+1", "1 ", " 1", "1;", "1)", "--1", "1-", "1a", "a", "1.0", "0x1", "- 1", "1_0", "\"1\"", "١", "1\n", "1/2"} {
		if lex.Number(s) {
			t.Errorf("Number of %q: true", s)
		}
	}
}

// Name and Number say of each short text what the one token that it is says.
func TestNameAndNumberAreTokens(t *testing.T) {
	eachText([]string{"a", "Z", "_", "?", "0", "1", "-", " ", "(", ";", `"`}, 4, func(s string) {
		got, err := lex.Tokens(s)
		alone := func(kind int) bool { return err == nil && len(got) == 1 && got[0].Kind == kind && got[0].Text == s }
		if lex.Name(s) != alone(api.TokName) || lex.Number(s) != alone(api.TokInt) {
			t.Errorf("%q: Name %v, Number %v, tokens %v", s, lex.Name(s), lex.Number(s), got)
		}
	})
}

func TestExamples(t *testing.T) {
	wantTokens(t, "(+ x -12) ; no", open(0), sign("+", 1), name("x", 3), number("-12", 5), shut(8))
	wantTokens(t, `"a\x0a\""`, text("a\n\"", 0))
	wantTokens(t, "(int? v)(- 1 2)", open(0), name("int?", 1), name("v", 6), shut(7), open(8), sign("-", 9), number("1", 11), number("2", 13), shut(14))
	wantWrong(t, "007", 0)
	wantWrong(t, `a"b"`, 0)
	wantWrong(t, "x -0", 2)
	wantWrong(t, `"`, 0)
}

// An error tells its number's text, and belongs to whoever was told it.
func TestErrors(t *testing.T) {
	_, err := lex.Tokens("a @")
	if err == nil || err.Error() != api.ErrForm.Error() {
		t.Fatalf("error %v", err)
	}
	var f *api.Fault
	if !errors.As(err, &f) {
		t.Fatal("no fault")
	}
	f.At, f.Code = 99, api.OK
	wantWrong(t, "a @", 2)
}

func TestLongTexts(t *testing.T) {
	const many = 1 << 18
	if got, err := lex.Tokens(strings.Repeat("(", many) + strings.Repeat(" ", many) + strings.Repeat(")", many)); err != nil || len(got) != 2*many || got[2*many-1] != shut(3*many-1) {
		t.Errorf("parentheses: %d, %v", len(got), err)
	}
	wantTokens(t, strings.Repeat("9", many), number(strings.Repeat("9", many), 0))
	wantTokens(t, strings.Repeat("n", many), name(strings.Repeat("n", many), 0))
	wantTokens(t, lex.Quote(strings.Repeat("\n", many)), text(strings.Repeat("\n", many), 0))
	wantTokens(t, strings.Repeat(";\n", many)+"x", name("x", 2*many))
	wantWrong(t, strings.Repeat("x ", many)+`"`+strings.Repeat(`\"`, many), 2*many)
	wantWrong(t, strings.Repeat("1 ", many)+strings.Repeat("n", many)+"-", 2*many)
}
