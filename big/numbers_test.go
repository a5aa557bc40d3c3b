package big_test

import (
	ref "math/big"
	"slices"
	"testing"

	"litmus/api"
	"litmus/big"
)

const top = 0xffffffff

// edgeMags are limbs at the ends of int64, of uint64 and of limbs, and some that are not trimmed.
func edgeMags() [][]uint32 {
	return [][]uint32{
		nil, {}, {0}, {0, 0, 0}, {1}, {1, 0, 0}, {2}, {3}, {7, 0}, {10}, {0x7fffffff}, {0x80000000}, {0x80000001}, {top - 1}, {top},
		{0, 1}, {1, 1}, {top, 1, 0}, {top, 0x7ffffffe}, {0, 0x7fffffff}, {top - 1, 0x7fffffff}, {top, 0x7fffffff}, {0, 0x80000000}, {1, 0x80000000}, {0, 0x80000000, 0},
		{0, top}, {top - 1, top}, {top, top}, {top, top, 0, 0}, {0, 0, 1}, {1, 0, 1}, {0, 0x80000000, 1}, {top, top, top}, {1, 2, 3, 4, 5},
	}
}

// edges are all of these on both sides of 0; some are not right.
func edges() []api.Int {
	var out []api.Int
	for _, mag := range edgeMags() {
		out = append(out, api.Int{Mag: mag}, api.Int{Neg: true, Mag: mag})
	}
	return out
}

// source hands out the same numbers at each run.
type source uint64

func (s *source) next() uint32 {
	*s = *s*6364136223846793005 + 1442695040888963407
	return uint32(*s >> 33)
}

func (s *source) limb() uint32 {
	if s.next()%3 == 0 {
		return []uint32{0, 1, 0x80000000, top}[s.next()%4]
	}
	return s.next()<<1 ^ s.next()
}

func (s *source) number(most int) api.Int {
	mag := make([]uint32, s.next()%uint32(most+1))
	for i := range mag {
		mag[i] = s.limb()
	}
	return api.Int{Neg: s.next()%2 == 0, Mag: mag}
}

// pairs are edges with each other, and numbers of many lengths.
func pairs() [][2]api.Int {
	var out [][2]api.Int
	for _, a := range edges() {
		for _, b := range edges() {
			out = append(out, [2]api.Int{a, b})
		}
	}
	s := source(1)
	for range 4000 {
		out = append(out, [2]api.Int{s.number(8), s.number(5)})
	}
	return out
}

func triples() [][3]api.Int {
	var out [][3]api.Int
	all := edges()
	for i, p := range pairs() {
		out = append(out, [3]api.Int{p[0], p[1], all[i*7%len(all)]})
	}
	return out
}

// want is the number that a is, by the library's arithmetic.
func want(a api.Int) *ref.Int {
	n := new(ref.Int)
	for _, limb := range slices.Backward(a.Mag) {
		n.Lsh(n, 32)
		n.Or(n, ref.NewInt(int64(limb)))
	}
	if a.Neg {
		n.Neg(n)
	}
	return n
}

// number is the right one of the library's.
func number(n *ref.Int) api.Int {
	left := new(ref.Int).Abs(n)
	var mag []uint32
	for mask := ref.NewInt(top); left.Sign() != 0; left.Rsh(left, 32) {
		mag = append(mag, uint32(new(ref.Int).And(left, mask).Uint64()))
	}
	return api.Int{Neg: n.Sign() < 0, Mag: mag}
}

func decimal(t *testing.T, s string) *ref.Int {
	n, ok := new(ref.Int).SetString(s, 10)
	if !ok {
		t.Fatal(s)
	}
	return n
}

// written tells whether a has no noughts at its high end, and is not 0 below 0: asked without the package's own Right.
func written(a api.Int) bool {
	if len(a.Mag) == 0 {
		return !a.Neg
	}
	return a.Mag[len(a.Mag)-1] != 0
}

func same(a, b api.Int) bool { return a.Neg == b.Neg && slices.Equal(a.Mag, b.Mag) }

func wantNumber(t *testing.T, what string, got api.Int, n *ref.Int) {
	t.Helper()
	if !same(got, number(n)) {
		t.Errorf("%s: %v, not %v", what, got, n)
	}
}

func wantSame(t *testing.T, what string, got, right api.Int) {
	t.Helper()
	if !same(got, right) {
		t.Errorf("%s: %v, not %v", what, got, right)
	}
}

func wantInt(t *testing.T, what string, got api.Int, n int64) {
	t.Helper()
	wantNumber(t, what, got, ref.NewInt(n))
}

// right is a as it counts.
func right(a api.Int) api.Int { return number(want(a)) }

func parsed(t *testing.T, s string) api.Int {
	t.Helper()
	a, ok := big.Parse(s)
	if !ok {
		t.Fatalf("Parse of %s: false", s)
	}
	return a
}
