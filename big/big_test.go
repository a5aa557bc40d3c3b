package big_test

import (
	"math"
	ref "math/big"
	"strings"
	"testing"

	"litmus/api"
	"litmus/big"
)

// P2.1

func TestRight(t *testing.T) {
	for _, p := range pairs() {
		if got := big.Right(p[0]); got != written(p[0]) {
			t.Errorf("Right of %v: %v", p[0], got)
		}
	}
	for _, a := range []api.Int{{}, {Mag: []uint32{}}, {Mag: []uint32{1}}, {Neg: true, Mag: []uint32{1}}, {Mag: []uint32{0, 1}}, {Neg: true, Mag: []uint32{0, 0, 1}}} {
		if !big.Right(a) {
			t.Errorf("Right of %v: false", a)
		}
	}
	for _, a := range []api.Int{{Neg: true}, {Neg: true, Mag: []uint32{}}, {Mag: []uint32{0}}, {Neg: true, Mag: []uint32{0}}, {Mag: []uint32{1, 0}}, {Neg: true, Mag: []uint32{5, 0, 0}}} {
		if big.Right(a) {
			t.Errorf("Right of %v: true", a)
		}
	}
}

func TestOf(t *testing.T) {
	for _, p := range pairs() {
		wantNumber(t, "Of", big.Of(p[0].Neg, p[0].Mag), want(p[0]))
	}
}

func smallNumbers() []int64 {
	out := []int64{0, math.MinInt64, math.MinInt64 + 1, math.MaxInt64, math.MaxInt64 - 1}
	for shift := range 63 {
		n := int64(1) << shift
		out = append(out, n, n-1, n+1, -n, -n-1, 1-n)
	}
	s := source(2)
	for range 2000 {
		out = append(out, int64(uint64(s.limb())<<32|uint64(s.limb())), int64(int32(s.limb())))
	}
	return out
}

func TestFrom(t *testing.T) {
	for _, n := range smallNumbers() {
		wantInt(t, "From", big.From(n), n)
	}
}

func TestSmall(t *testing.T) {
	for _, p := range pairs() {
		a := p[0]
		n, ok := big.Small(a)
		if fits := want(a).IsInt64(); ok != fits {
			t.Errorf("Small of %v: %v", a, ok)
		} else if !ok && n != 0 || ok && n != want(a).Int64() {
			t.Errorf("Small of %v: %d", a, n)
		}
	}
	for _, n := range smallNumbers() {
		if back, ok := big.Small(big.From(n)); back != n || !ok {
			t.Errorf("Small of From(%d): %d %v", n, back, ok)
		}
	}
}

func TestSmallAtItsEnds(t *testing.T) {
	for _, s := range []string{"9223372036854775808", "-9223372036854775809", "18446744073709551615", "-18446744073709551615", "18446744073709551616", "-18446744073709551616", "-18446744073709551617"} {
		if n, ok := big.Small(number(decimal(t, s))); n != 0 || ok {
			t.Errorf("Small of %s: %d %v", s, n, ok)
		}
	}
}

func TestSignAndCmp(t *testing.T) {
	for _, p := range pairs() {
		a, b := p[0], p[1]
		if got := big.Sign(a); got != want(a).Sign() {
			t.Errorf("Sign of %v: %d", a, got)
		}
		if got := big.Cmp(a, b); got != want(a).Cmp(want(b)) {
			t.Errorf("Cmp of %v and %v: %d", a, b, got)
		}
		if got := big.Cmp(a, right(a)); got != 0 {
			t.Errorf("Cmp of %v and itself: %d", a, got)
		}
	}
}

// P2.2

func TestNegAndSub(t *testing.T) {
	for _, p := range pairs() {
		a, b := p[0], p[1]
		wantNumber(t, "Neg", big.Neg(a), new(ref.Int).Neg(want(a)))
		wantNumber(t, "Sub", big.Sub(a, b), new(ref.Int).Sub(want(a), want(b)))
	}
}

func TestAddAndMulOfTwo(t *testing.T) {
	for _, p := range pairs() {
		a, b := p[0], p[1]
		wantNumber(t, "Add", big.Add(a, b), new(ref.Int).Add(want(a), want(b)))
		wantNumber(t, "Mul", big.Mul(a, b), new(ref.Int).Mul(want(a), want(b)))
	}
}

func TestAddAndMulOfNoneAndOne(t *testing.T) {
	wantInt(t, "Add of none", big.Add(), 0)
	wantInt(t, "Mul of none", big.Mul(), 1)
	wantInt(t, "Add of an empty list", big.Add([]api.Int{}...), 0)
	wantInt(t, "Mul of an empty list", big.Mul([]api.Int{}...), 1)
	for _, a := range edges() {
		wantNumber(t, "Add of one", big.Add(a), want(a))
		wantNumber(t, "Mul of one", big.Mul(a), want(a))
	}
}

func TestAddAndMulOfMany(t *testing.T) {
	s := source(3)
	for n := range 40 {
		sum, product := ref.NewInt(0), ref.NewInt(1)
		var l []api.Int
		for range n {
			a := s.number(3)
			sum.Add(sum, want(a))
			if want(a).Sign() == 0 {
				a = api.Int{Neg: true, Mag: []uint32{1, 0}}
				sum.Sub(sum, ref.NewInt(1))
			}
			product.Mul(product, want(a))
			l = append(l, a)
		}
		wantNumber(t, "Add of many", big.Add(l...), sum)
		wantNumber(t, "Mul of many", big.Mul(l...), product)
		wantInt(t, "Mul with 0", big.Mul(append(l, api.Int{Neg: true})...), 0)
	}
}

// P2.3

// floor is the division that P2.3 tells, by the library's, which cuts towards 0.
func floor(a, b *ref.Int) (q, r *ref.Int) {
	q, r = new(ref.Int).QuoRem(a, b, new(ref.Int))
	if r.Sign() != 0 && r.Sign() != b.Sign() {
		q.Sub(q, ref.NewInt(1))
		r.Add(r, b)
	}
	return q, r
}

func TestDivAndMod(t *testing.T) {
	for _, p := range pairs() {
		a, b := p[0], p[1]
		if want(b).Sign() == 0 {
			continue
		}
		often, left := floor(want(a), want(b))
		q, e := big.Div(a, b)
		r, f := big.Mod(a, b)
		wantNumber(t, "Div", q, often)
		wantNumber(t, "Mod", r, left)
		if e != api.OK || f != api.OK {
			t.Errorf("of %v and %v: %v %v", a, b, e, f)
		}
	}
}

func TestDivAndModOfFewEachWay(t *testing.T) {
	for a := int64(-30); a <= 30; a++ {
		for b := int64(-7); b <= 7; b++ {
			if b == 0 {
				continue
			}
			often := int64(math.Floor(float64(a) / float64(b)))
			q, _ := big.Div(big.From(a), big.From(b))
			r, _ := big.Mod(big.From(a), big.From(b))
			wantInt(t, "Div", q, often)
			wantInt(t, "Mod", r, a-b*often)
		}
	}
}

func TestDivAndModByNothing(t *testing.T) {
	for _, a := range edges() {
		for _, zero := range []api.Int{{}, {Mag: []uint32{}}, {Neg: true}, {Mag: []uint32{0}}, {Neg: true, Mag: []uint32{0, 0}}} {
			if q, e := big.Div(a, zero); e != api.ErrZero || q.Neg || len(q.Mag) != 0 {
				t.Errorf("Div of %v by %v: %v %v", a, zero, q, e)
			}
			if r, e := big.Mod(a, zero); e != api.ErrZero || r.Neg || len(r.Mag) != 0 {
				t.Errorf("Mod of %v by %v: %v %v", a, zero, r, e)
			}
		}
	}
}

// P2.4

func TestText(t *testing.T) {
	for _, p := range pairs() {
		if got := big.Text(p[0]); got != want(p[0]).String() {
			t.Errorf("Text of %v: %s", p[0], got)
		}
	}
}

func TestParse(t *testing.T) {
	for _, p := range pairs() {
		s := want(p[0]).String()
		wantNumber(t, "Parse of "+s, parsed(t, s), want(p[0]))
	}
	for n := range 50 {
		s := "-1" + strings.Repeat("0", n) + "7"
		wantNumber(t, "Parse of "+s, parsed(t, s), decimal(t, s))
	}
}

func TestParseOfNoNumber(t *testing.T) {
	for _, s := range []string{
		"", "-", "--", "--1", "-0", "-00", "00", "01", "-01", "-007", "+1", "+0", "+-1", "-+1", "1-", "-1-", " 1", "1 ", "- 1", "-1 ", " -1",
		"1.0", "-1.5", "1e3", "0x1f", "-0x1", "a", "-a", "12a", "-12a", "1_000", "1/2", "\x00", "-\x00", "-1\n", "\u22121", "\u0661", "-\u0661", "\xff", "0-", "-0-",
	} {
		if got, ok := big.Parse(s); ok || got.Neg || len(got.Mag) != 0 {
			t.Errorf("Parse of %q: %v %v", s, got, ok)
		}
	}
}

func TestExamples(t *testing.T) {
	wantInt(t, "Add", big.Add(big.From(5), big.From(-7)), -2)
	wantInt(t, "Mul of none", big.Mul(), 1)
	wantNumber(t, "Mul", big.Mul(big.From(-1<<62), big.From(4)), decimal(t, "-18446744073709551616"))
	for _, x := range [][4]int64{{7, 2, 3, 1}, {-7, 2, -4, 1}, {7, -2, -4, -1}, {-7, -2, 3, -1}} {
		q, e := big.Div(big.From(x[0]), big.From(x[1]))
		r, f := big.Mod(big.From(x[0]), big.From(x[1]))
		wantInt(t, "Div", q, x[2])
		wantInt(t, "Mod", r, x[3])
		if e != api.OK || f != api.OK {
			t.Error(x, e, f)
		}
	}
	wantInt(t, "Of", big.Of(true, []uint32{0, 0}), 0)
	if got := big.Text(big.From(math.MinInt64)); got != "-9223372036854775808" {
		t.Error(got)
	}
	wantInt(t, "Parse", parsed(t, "-12"), -12)
	if n, ok := big.Small(api.Int{Mag: []uint32{0, 0x80000000}}); n != 0 || ok {
		t.Error(n, ok)
	}
	if n, ok := big.Small(api.Int{Neg: true, Mag: []uint32{0, 0x80000000}}); n != math.MinInt64 || !ok {
		t.Error(n, ok)
	}
}
