package rat_test

import (
	"math"
	ref "math/big"
	"strings"
	"testing"

	"litmus/api"
	"litmus/rat"
)

// P3.1

func TestRight(t *testing.T) {
	for _, p := range pairs() {
		if got := rat.Right(p[0]); got != same(p[0], right(p[0])) {
			t.Errorf("Right of %v: %v", p[0], got)
		}
		if !rat.Right(right(p[0])) {
			t.Errorf("Right of %v: false", right(p[0]))
		}
	}
}

func TestRightAtEdges(t *testing.T) {
	one, two, six := []uint32{1}, []uint32{2}, []uint32{6}
	for _, a := range []api.Rat{
		{D: one}, {N: api.Int{Mag: []uint32{}}, D: one}, {N: api.Int{Mag: one}, D: one}, {N: api.Int{Neg: true, Mag: one}, D: one},
		{N: api.Int{Mag: one}, D: two}, {N: api.Int{Neg: true, Mag: []uint32{5}}, D: six}, {N: api.Int{Mag: []uint32{0, 1}}, D: []uint32{1, 1}},
	} {
		if !rat.Right(a) {
			t.Errorf("Right of %v: false", a)
		}
	}
	for _, a := range []api.Rat{
		{}, {D: []uint32{}}, {D: two}, {D: []uint32{1, 0}}, {D: []uint32{0}}, {N: api.Int{Neg: true}, D: one}, {N: api.Int{Mag: []uint32{0}}, D: one},
		{N: api.Int{Mag: one}}, {N: api.Int{Mag: one}, D: []uint32{0}}, {N: api.Int{Mag: two}, D: two}, {N: api.Int{Mag: []uint32{4}}, D: six},
		{N: api.Int{Neg: true, Mag: []uint32{3}}, D: six}, {N: api.Int{Mag: []uint32{1, 0}}, D: two}, {N: api.Int{Mag: one}, D: []uint32{2, 0}},
		{N: api.Int{Mag: []uint32{0, 1}}, D: []uint32{0, 3}},
	} {
		if rat.Right(a) {
			t.Errorf("Right of %v: true", a)
		}
	}
}

func TestOf(t *testing.T) {
	for _, n := range edgeNs() {
		for _, d := range edgeNs() {
			got, e := rat.Of(n, d)
			if wantInt(d).Sign() == 0 {
				if e != api.ErrZero || !isZero(got) {
					t.Errorf("Of %v and %v: %v %v", n, d, got, e)
				}
				continue
			}
			wantRat(t, "Of", got, new(ref.Rat).SetFrac(wantInt(n), wantInt(d)))
			if e != api.OK {
				t.Errorf("Of %v and %v: %v", n, d, e)
			}
		}
	}
}

func TestInt(t *testing.T) {
	for _, n := range edgeNs() {
		wantRat(t, "Int", rat.Int(n), new(ref.Rat).SetInt(wantInt(n)))
	}
}

func TestFrom(t *testing.T) {
	for _, n := range []int64{0, 1, -1, 7, -12, 1<<32 - 1, 1 << 32, -1 << 32, math.MaxInt64, math.MinInt64, math.MinInt64 + 1} {
		wantRat(t, "From", rat.From(n), new(ref.Rat).SetInt64(n))
	}
}

// P3.2

func TestOfTwo(t *testing.T) {
	for _, p := range pairs() {
		a, b := p[0], p[1]
		x, y := want(a), want(b)
		wantRat(t, "Neg", rat.Neg(a), new(ref.Rat).Neg(x))
		wantRat(t, "Add", rat.Add(a, b), new(ref.Rat).Add(x, y))
		wantRat(t, "Sub", rat.Sub(a, b), new(ref.Rat).Sub(x, y))
		wantRat(t, "Mul", rat.Mul(a, b), new(ref.Rat).Mul(x, y))
		if got := rat.Cmp(a, b); got != x.Cmp(y) {
			t.Errorf("Cmp of %v and %v: %d", a, b, got)
		}
		if got := rat.Sign(a); got != x.Sign() {
			t.Errorf("Sign of %v: %d", a, got)
		}
	}
}

func TestDiv(t *testing.T) {
	for _, p := range pairs() {
		x, y := want(p[0]), want(p[1])
		q, e := rat.Div(p[0], p[1])
		if y.Sign() == 0 {
			if e != api.ErrZero || !isZero(q) {
				t.Errorf("Div of %v by %v: %v %v", p[0], p[1], q, e)
			}
			continue
		}
		wantRat(t, "Div", q, new(ref.Rat).Quo(x, y))
		if e != api.OK {
			t.Errorf("Div of %v by %v: %v", p[0], p[1], e)
		}
	}
}

func TestDivByNothing(t *testing.T) {
	zeros := []api.Rat{{}, {D: []uint32{0}}, {D: []uint32{1}}, {D: []uint32{7}}, {N: api.Int{Neg: true, Mag: []uint32{0}}, D: []uint32{0, 1}}, {N: api.Int{Neg: true}}}
	for _, a := range append(edges(), zeros...) {
		for _, zero := range zeros {
			if q, e := rat.Div(a, zero); e != api.ErrZero || !isZero(q) {
				t.Errorf("Div of %v by %v: %v %v", a, zero, q, e)
			}
		}
	}
}

// Fractions that are near each other are told apart, however long they are.
func TestCmpOfNeighbours(t *testing.T) {
	s := source(3)
	for range 500 {
		mag := append(s.limbs(6), 1)
		below := api.Rat{N: api.Int{Mag: mag}, D: limbsOf(new(ref.Int).Add(wantLimbs(mag), ref.NewInt(1)))}
		above := api.Rat{N: api.Int{Mag: below.D}, D: limbsOf(new(ref.Int).Add(wantLimbs(mag), ref.NewInt(2)))}
		if rat.Cmp(below, above) != -1 || rat.Cmp(above, below) != 1 || rat.Cmp(rat.Neg(below), rat.Neg(above)) != 1 {
			t.Errorf("Cmp of %v and %v", below, above)
		}
	}
}

// P3.3

// down is the whole number below, by the library's division, which has no fraction's floor.
func down(x *ref.Rat) *ref.Int {
	// With a divisor above 0, Euclid's division goes down.
	return new(ref.Int).Div(x.Num(), x.Denom())
}

func TestFloorCeilWhole(t *testing.T) {
	for _, p := range pairs() {
		a := p[0]
		x := want(a)
		wantWhole(t, "Floor", rat.Floor(a), down(x))
		up := down(new(ref.Rat).Neg(x))
		wantWhole(t, "Ceil", rat.Ceil(a), up.Neg(up))
		if got := rat.Whole(a); got != x.IsInt() {
			t.Errorf("Whole of %v: %v", a, got)
		}
	}
}

func TestFloorAndCeilOfFew(t *testing.T) {
	for n := -40; n <= 40; n++ {
		for d := 1; d <= 9; d++ {
			a := fractionOf(ref.NewRat(int64(n), int64(d)))
			near := float64(n) / float64(d)
			wantWhole(t, "Floor", rat.Floor(a), ref.NewInt(int64(math.Floor(near))))
			wantWhole(t, "Ceil", rat.Ceil(a), ref.NewInt(int64(math.Ceil(near))))
			if rat.Whole(a) != (n%d == 0) {
				t.Errorf("Whole of %d/%d", n, d)
			}
		}
	}
}

func TestText(t *testing.T) {
	for _, p := range pairs() {
		if got := rat.Text(p[0]); got != textOf(want(p[0])) {
			t.Errorf("Text of %v: %s", p[0], got)
		}
	}
	for _, a := range []api.Rat{{}, {D: []uint32{5}}, {N: api.Int{Neg: true}, D: []uint32{0}}} {
		if got := rat.Text(a); got != "0" {
			t.Errorf("Text of %v: %s", a, got)
		}
	}
}

func TestParse(t *testing.T) {
	for _, p := range pairs() {
		s := textOf(want(p[0]))
		wantRat(t, "Parse of "+s, parsed(t, s), want(p[0]))
	}
	for _, s := range []string{"0", "1", "-1", "1/2", "-1/2", "10/3", "-5/3", "18446744073709551616", "-1/18446744073709551616", "18446744073709551617/18446744073709551616"} {
		wantRat(t, "Parse of "+s, parsed(t, s), decimal(t, s))
	}
}

func TestParseOfNoFraction(t *testing.T) {
	for _, s := range []string{
		"", "/", "//", "-", "-/", "/2", "-/2", "1/", "-1/", "1//2", "1/2/", "/1/2", "1/2/3", "2/4", "6/4", "-6/4", "4/2", "3/3", "-3/3", "3/1", "-3/1", "0/1", "0/2", "-0/2", "-0", "0/0", "1/0", "-1/0", "0/",
		"1/00", "1/02", "01/2", "-01/2", "1/-2", "-1/-2", "1/+2", "+1/2", "+1", "--1/2", "1/--2", " 1/2", "1/2 ", "1 /2", "1/ 2", "1\\2", "1:2", "1/2\n", "1/2\x00", "\x001/2",
		"1.5", "0.5", "1/2.0", "1e3", "1/1e3", "0x1/2", "1/0x2", "a/b", "1/b", "a/2", "1_0/3", "1/1_1", "\u0661/2", "1/\u0662", "1\u20442", "\xff/2", "1/\xff", "-", "1/2-", "1-/2",
		strings.Repeat("6", 300) + "/" + strings.Repeat("9", 100),
	} {
		if got, ok := rat.Parse(s); ok || !isZero(got) {
			t.Errorf("Parse of %q: %v %v", s, got, ok)
		}
	}
}

func TestExamples(t *testing.T) {
	a, e := rat.Of(api.Int{Mag: []uint32{6}}, api.Int{Neg: true, Mag: []uint32{4}})
	wantSame(t, "Of", a, api.Rat{N: api.Int{Neg: true, Mag: []uint32{3}}, D: []uint32{2}})
	if e != api.OK || rat.Text(a) != "-3/2" {
		t.Error(e, rat.Text(a))
	}
	if got := rat.Text(rat.Add(parsed(t, "1/2"), parsed(t, "1/3"))); got != "5/6" {
		t.Error("Add", got)
	}
	wantSame(t, "Mul", rat.Mul(a, parsed(t, "2/3")), rat.From(-1))
	wantWhole(t, "Floor", rat.Floor(a), ref.NewInt(-2))
	wantWhole(t, "Ceil", rat.Ceil(a), ref.NewInt(-1))
	asItComes := api.Rat{N: api.Int{Mag: []uint32{2}}, D: []uint32{6}}
	if got := rat.Cmp(parsed(t, "1/3"), asItComes); got != 0 {
		t.Error("Cmp", got)
	}
	wantSame(t, "Parse", parsed(t, "-5/3"), api.Rat{N: api.Int{Neg: true, Mag: []uint32{5}}, D: []uint32{3}})
}
