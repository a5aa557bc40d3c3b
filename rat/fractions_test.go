package rat_test

import (
	ref "math/big"
	"slices"
	"testing"

	"litmus/api"
	"litmus/rat"
)

const top = 0xffffffff

// edgeNs are whole numbers on both sides of 0; some are not right.
func edgeNs() []api.Int {
	var out []api.Int
	for _, mag := range [][]uint32{
		nil, {0}, {0, 0}, {1}, {1, 0}, {2}, {3}, {6, 0, 0}, {12}, {0x80000000}, {top},
		{0, 1}, {top, 0x7fffffff}, {0, 0x80000000, 0}, {top, top}, {0, 0, 1}, {6, 0, 0, 6},
	} {
		out = append(out, api.Int{Mag: mag}, api.Int{Neg: true, Mag: mag})
	}
	return out
}

// edgeDs are limbs below a stroke: none, noughts alone, with noughts at the high end, and others.
func edgeDs() [][]uint32 {
	return [][]uint32{nil, {}, {0}, {0, 0, 0}, {1}, {1, 0}, {2}, {3}, {4, 0, 0}, {6}, {top}, {0, 1}, {top, top}, {0, 0, 3, 0}}
}

// edges are all of these one above the other; many are not right.
func edges() []api.Rat {
	var out []api.Rat
	for _, n := range edgeNs() {
		for _, d := range edgeDs() {
			out = append(out, api.Rat{N: n, D: d})
		}
	}
	return out
}

// source hands out the same numbers at each run.
type source uint64

func (s *source) next() uint32 {
	*s = *s*6364136223846793005 + 1442695040888963407
	return uint32(*s >> 33)
}

func (s *source) limbs(most int) []uint32 {
	out := make([]uint32, s.next()%uint32(most+1))
	for i := range out {
		if s.next()%3 == 0 {
			out[i] = []uint32{0, 1, 6, 0x80000000, top}[s.next()%5]
		} else {
			out[i] = s.next()<<1 ^ s.next()
		}
	}
	return out
}

// fraction has small numbers as often as long ones, so that many are alike, or go into each other.
func (s *source) fraction(most int) api.Rat {
	n := api.Int{Neg: s.next()%2 == 0, Mag: s.limbs(most)}
	d := s.limbs(most)
	if s.next()%2 == 0 {
		n.Mag, d = []uint32{s.next() % 40}, []uint32{s.next() % 13, 0}
	}
	return api.Rat{N: n, D: d}
}

// pairs are edges beside each other, and fractions of many lengths.
func pairs() [][2]api.Rat {
	var out [][2]api.Rat
	all := edges()
	for i, a := range all {
		for j := i % 7; j < len(all); j += 7 {
			out = append(out, [2]api.Rat{a, all[j]})
		}
	}
	s := source(1)
	for range 3000 {
		out = append(out, [2]api.Rat{s.fraction(5), s.fraction(3)})
	}
	return out
}

func triples() [][3]api.Rat {
	var out [][3]api.Rat
	all := edges()
	s := source(2)
	for range 4000 {
		a, b, c := s.next()%uint32(len(all)), s.next()%uint32(len(all)), s.next()%uint32(len(all))
		out = append(out, [3]api.Rat{all[a], all[b], all[c]}, [3]api.Rat{s.fraction(3), s.fraction(3), s.fraction(2)})
	}
	return out
}

func wantLimbs(mag []uint32) *ref.Int {
	n := new(ref.Int)
	for _, limb := range slices.Backward(mag) {
		n.Lsh(n, 32)
		n.Or(n, ref.NewInt(int64(limb)))
	}
	return n
}

func wantInt(a api.Int) *ref.Int {
	n := wantLimbs(a.Mag)
	if a.Neg {
		n.Neg(n)
	}
	return n
}

// want is the fraction that a counts as, by the library's arithmetic.
func want(a api.Rat) *ref.Rat {
	d := wantLimbs(a.D)
	if d.Sign() == 0 {
		d.SetInt64(1)
	}
	return new(ref.Rat).SetFrac(wantInt(a.N), d)
}

func limbsOf(n *ref.Int) []uint32 {
	left := new(ref.Int).Abs(n)
	var out []uint32
	for mask := ref.NewInt(top); left.Sign() != 0; left.Rsh(left, 32) {
		out = append(out, uint32(new(ref.Int).And(left, mask).Uint64()))
	}
	return out
}

func intOf(n *ref.Int) api.Int { return api.Int{Neg: n.Sign() < 0, Mag: limbsOf(n)} }

// fractionOf is the right one of the library's.
func fractionOf(x *ref.Rat) api.Rat {
	return api.Rat{N: intOf(x.Num()), D: limbsOf(x.Denom())}
}

// right is a as it counts.
func right(a api.Rat) api.Rat { return fractionOf(want(a)) }

func textOf(x *ref.Rat) string { return x.RatString() }

func decimal(t *testing.T, s string) *ref.Rat {
	t.Helper()
	x, ok := new(ref.Rat).SetString(s)
	if !ok {
		t.Fatal(s)
	}
	return x
}

func sameInt(a, b api.Int) bool { return a.Neg == b.Neg && slices.Equal(a.Mag, b.Mag) }

func same(a, b api.Rat) bool { return sameInt(a.N, b.N) && slices.Equal(a.D, b.D) }

// isZero tells whether a is the right 0: N without limbs and without a sign, D the one limb 1.
func isZero(a api.Rat) bool {
	return !a.N.Neg && len(a.N.Mag) == 0 && slices.Equal(a.D, []uint32{1}) && rat.Right(a)
}

func wantSame(t *testing.T, what string, got, must api.Rat) {
	t.Helper()
	if !same(got, must) {
		t.Errorf("%s: %v, not %v", what, got, must)
	}
}

func wantRat(t *testing.T, what string, got api.Rat, x *ref.Rat) {
	t.Helper()
	wantSame(t, what, got, fractionOf(x))
}

func wantWhole(t *testing.T, what string, got api.Int, n *ref.Int) {
	t.Helper()
	if !sameInt(got, intOf(n)) {
		t.Errorf("%s: %v, not %v", what, got, n)
	}
}

func parsed(t *testing.T, s string) api.Rat {
	t.Helper()
	a, ok := rat.Parse(s)
	if !ok {
		t.Fatalf("Parse of %s: false", s)
	}
	return a
}
