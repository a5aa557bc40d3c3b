package nat_test

import (
	"math/big"
	"slices"
	"strings"
	"testing"

	"litmus/api"
	"litmus/nat"
)

func wantRow(t *testing.T, what string, got, want row) {
	t.Helper()
	if !slices.Equal(got, want) {
		t.Errorf("%s: %x, not %x", what, got, want)
	}
}

// P1.1

func TestTrim(t *testing.T) {
	for _, c := range []struct{ a, want row }{
		{nil, nil}, {row{0}, nil}, {row{0, 0, 0}, nil}, {row{7}, row{7}}, {row{7, 0}, row{7}},
		{row{0, 1}, row{0, 1}}, {row{0, 0, 5, 0, 0}, row{0, 0, 5}}, {row{top, top}, row{top, top}},
	} {
		wantRow(t, "Trim", nat.Trim(c.a), c.want)
	}
}

func TestFrom(t *testing.T) {
	for _, c := range []struct {
		n    uint64
		want row
	}{
		{0, nil}, {1, row{1}}, {top, row{top}}, {1 << 32, row{0, 1}}, {1<<32 + 1, row{1, 1}},
		{1<<63 | 5, row{5, 0x80000000}}, {1<<64 - 1, row{top, top}},
	} {
		wantRow(t, "From", nat.From(c.n), c.want)
	}
}

func TestSmall(t *testing.T) {
	for _, c := range []struct {
		a    row
		want uint64
		ok   bool
	}{
		{nil, 0, true}, {row{0, 0, 0}, 0, true}, {row{5}, 5, true}, {row{0, 1}, 1 << 32, true},
		{row{top, top}, 1<<64 - 1, true}, {row{top, top, 0, 0}, 1<<64 - 1, true},
		{row{0, 0, 1}, 0, false}, {row{7, 7, 1, 0}, 0, false}, {row{1, 0, 0, 1}, 0, false},
	} {
		if got, ok := nat.Small(c.a); got != c.want || ok != c.ok {
			t.Errorf("Small of %x: %d %v, not %d %v", c.a, got, ok, c.want, c.ok)
		}
	}
}

func TestCmp(t *testing.T) {
	for _, c := range []struct {
		a, b row
		want int
	}{
		{nil, nil, 0}, {nil, row{0, 0}, 0}, {row{1}, nil, 1}, {nil, row{1}, -1}, {row{5}, row{5, 0}, 0},
		{row{top}, row{0, 1}, -1}, {row{1, 2}, row{2, 1}, 1}, {row{2, 1}, row{1, 2}, -1}, {row{1, 2}, row{2, 2}, -1},
		{row{9, 0, 0}, row{8}, 1}, {row{8}, row{9, 0, 0}, -1}, {row{top, top}, row{0, 0, 1}, -1},
	} {
		if got := nat.Cmp(c.a, c.b); got != c.want {
			t.Errorf("Cmp of %x and %x: %d, not %d", c.a, c.b, got, c.want)
		}
	}
	for _, p := range pairsOfRows() {
		if got := nat.Cmp(p[0], p[1]); got != want(p[0]).Cmp(want(p[1])) {
			t.Errorf("Cmp of %x and %x: %d", p[0], p[1], got)
		}
	}
}

// P1.2

func TestAddAndMul(t *testing.T) {
	for _, p := range pairsOfRows() {
		a, b := want(p[0]), want(p[1])
		wantRow(t, "Add", nat.Add(p[0], p[1]), rowOf(new(big.Int).Add(a, b)))
		wantRow(t, "Mul", nat.Mul(p[0], p[1]), rowOf(new(big.Int).Mul(a, b)))
	}
}

func TestSub(t *testing.T) {
	for _, p := range pairsOfRows() {
		got, ok := nat.Sub(p[0], p[1])
		a, b := want(p[0]), want(p[1])
		if less := a.Cmp(b) < 0; ok == less {
			t.Errorf("Sub of %x and %x: %v", p[0], p[1], ok)
		} else if less {
			wantRow(t, "Sub of more", got, nil)
		} else {
			wantRow(t, "Sub", got, rowOf(new(big.Int).Sub(a, b)))
		}
	}
}

func TestDiv(t *testing.T) {
	for _, p := range pairsOfRows() {
		a, b := want(p[0]), want(p[1])
		if b.Sign() == 0 {
			continue
		}
		q, r, e := nat.Div(p[0], p[1])
		often, left := new(big.Int).QuoRem(a, b, new(big.Int))
		wantRow(t, "Div, how often", q, rowOf(often))
		wantRow(t, "Div, what is left", r, rowOf(left))
		if e != api.OK {
			t.Errorf("Div of %x and %x: %v", p[0], p[1], e)
		}
	}
}

func TestDivByNothing(t *testing.T) {
	for _, a := range edgeRows() {
		for _, b := range []row{nil, {}, {0}, {0, 0, 0}} {
			if q, r, e := nat.Div(a, b); len(q) != 0 || len(r) != 0 || e != api.ErrZero {
				t.Errorf("Div of %x and %x: %x %x %v", a, b, q, r, e)
			}
		}
	}
}

// The highest limbs alone tell too great a quotient for these: of the first two even the three highest ones do.
func TestDivWhereAGuessIsTooGreat(t *testing.T) {
	for _, c := range []struct{ a, b, q, r row }{
		{row{0, 0, 0x8000, 0x7fff}, row{1, 0, 0x8000}, row{0xfffe0000}, row{0x20000, top, 0x7fff}},
		{row{3, 0, 0x80000000}, row{1, 0, 0x20000000}, row{3}, row{0, 0, 0x20000000}},
		{row{0, top - 1, 0x80000000}, row{top, 0x80000000}, row{top}, row{top, 0x7fffffff}},
	} {
		q, r, _ := nat.Div(c.a, c.b)
		wantRow(t, "q", q, c.q)
		wantRow(t, "r", r, c.r)
	}
}

func TestGcd(t *testing.T) {
	for _, p := range pairsOfRows() {
		wantRow(t, "Gcd", nat.Gcd(p[0], p[1]), rowOf(new(big.Int).GCD(nil, nil, want(p[0]), want(p[1]))))
	}
	s := source(3)
	for range 300 {
		both, a, b := s.row(5), s.row(5), s.row(5)
		a, b = nat.Mul(a, both), nat.Mul(b, both)
		wantRow(t, "Gcd", nat.Gcd(a, b), rowOf(new(big.Int).GCD(nil, nil, want(a), want(b))))
	}
}

func TestGcdWithNothing(t *testing.T) {
	for _, a := range edgeRows() {
		wantRow(t, "Gcd of 0", nat.Gcd(nil, a), nat.Trim(a))
		wantRow(t, "Gcd and 0", nat.Gcd(a, row{0, 0}), nat.Trim(a))
	}
}

// P1.3

func TestText(t *testing.T) {
	for _, p := range pairsOfRows() {
		if got := nat.Text(p[0]); got != want(p[0]).String() {
			t.Errorf("Text of %x: %s", p[0], got)
		}
	}
	for _, digits := range texts() {
		n, _ := new(big.Int).SetString(digits, 10)
		if got := nat.Text(rowOf(n)); got != digits {
			t.Errorf("Text: %s, not %s", got, digits)
		}
	}
}

// texts are digits at the ends of limbs and of groups of nine.
func texts() []string {
	out := []string{"0", "1", "9", "10", "4294967295", "4294967296", "18446744073709551615", "18446744073709551616"}
	for n := range 60 {
		noughts := strings.Repeat("0", n)
		out = append(out, "1"+noughts, "7"+noughts+"1", strings.Repeat("9", n+1), "5"+strings.Repeat("019", n))
	}
	return append(out, strings.Repeat("1234567890", 400))
}

func TestParse(t *testing.T) {
	for _, digits := range texts() {
		n, _ := new(big.Int).SetString(digits, 10)
		got, ok := nat.Parse(digits)
		if !ok {
			t.Errorf("Parse of %s: false", digits)
		}
		wantRow(t, "Parse of "+digits, got, rowOf(n))
	}
}

func TestParseOfNoDigits(t *testing.T) {
	for _, s := range []string{
		"", "00", "01", "007", "0000000000", "-1", "-0", "+1", " 1", "1 ", "1 2", "1_000", "0x1f", "1.0", "1e3", "a", "12a", "a12",
		"/", ":", "1/", "1:", "12345678901234567890x", "x2345678901234567890", "\x00", "1\x00", "\xff", "1\xff", "\n", "1\n",
		"\u0661", "\uff11", "\u00b2", "123\u0664", "0 ", "0-",
	} {
		if got, ok := nat.Parse(s); ok || len(got) != 0 {
			t.Errorf("Parse of %q: %x %v", s, got, ok)
		}
	}
}

// Each byte by itself: the ten digits are digits, and no other one is.
func TestParseOfOneByte(t *testing.T) {
	for c := range 256 {
		got, ok := nat.Parse(string([]byte{byte(c)}))
		if isDigit := c >= '0' && c <= '9'; ok != isDigit {
			t.Errorf("Parse of the byte %d: %v", c, ok)
		} else if isDigit {
			wantRow(t, "one digit", got, nat.From(uint64(c-'0')))
		}
	}
}

func TestExamples(t *testing.T) {
	wantRow(t, "Add", nat.Add(row{top}, row{1}), row{0, 1})
	wantRow(t, "Mul", nat.Mul(row{top}, row{top}), row{1, 0xfffffffe})
	q, r, e := nat.Div(row{0, 0, 1}, row{3})
	wantRow(t, "Div, how often", q, row{0x55555555, 0x55555555})
	wantRow(t, "Div, what is left", r, row{1})
	wantRow(t, "Gcd", nat.Gcd(row{48}, row{180}), row{12})
	if e != api.OK || nat.Text(row{0, 1}) != "4294967296" || nat.Text(nil) != "0" {
		t.Error(e, nat.Text(row{0, 1}), nat.Text(nil))
	}
	if n, ok := nat.Parse("007"); ok || len(n) != 0 {
		t.Error(n, ok)
	}
	n, ok := nat.Parse("18446744073709551616")
	wantRow(t, "Parse", n, row{0, 0, 1})
	if !ok {
		t.Error("Parse of 2^64: false")
	}
}
