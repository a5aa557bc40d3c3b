package lin_test

import (
	"maps"
	"math"
	ref "math/big"
	"slices"
	"strconv"
	"testing"

	"litmus/api"
	"litmus/lin"
	"litmus/rat"
)

const top = 0xffffffff

func mag(limbs ...uint32) []uint32 { return limbs }

// ratio is n over d as it comes, in lowest terms or not.
func ratio(n int32, d uint32) api.Rat {
	size := uint32(max(n, -n))
	return api.Rat{N: api.Int{Neg: n < 0, Mag: mag(size)}, D: mag(d)}
}

// sum is c and then, by turns, a variable and a whole number.
func sum(c int32, parts ...int) api.Lin {
	out := api.Lin{C: ratio(c, 1)}
	for i := 0; i < len(parts); i += 2 {
		out.Vars = append(out.Vars, parts[i])
		out.Coefs = append(out.Coefs, ratio(int32(parts[i+1]), 1))
	}
	return out
}

// edges are sums of which many are not right: lists of two lengths, variables that fall or are there twice, fractions that are 0 or not right.
func edges() []api.Lin {
	half, third := ratio(1, 2), ratio(-1, 3)
	bare, minusNought := api.Rat{}, api.Rat{N: api.Int{Neg: true, Mag: mag(0)}, D: mag(0, 0)}
	long := api.Rat{N: api.Int{Neg: true, Mag: mag(top, 0, top)}, D: mag(0, 1)}
	padded := api.Rat{N: api.Int{Mag: mag(6, 0)}, D: mag(4, 0, 0)}
	return []api.Lin{
		{}, {Vars: []int{}, Coefs: []api.Rat{}}, {C: minusNought}, {C: half}, {C: third}, {C: padded}, {C: long},
		{Vars: []int{1}}, {Vars: []int{1, 2}, Coefs: []api.Rat{half}}, {C: half, Coefs: []api.Rat{third}},
		{Vars: []int{3}, Coefs: []api.Rat{half, third, long}},
		{Vars: []int{1}, Coefs: []api.Rat{bare}}, {C: half, Vars: []int{1, 2}, Coefs: []api.Rat{minusNought, half}},
		{Vars: []int{1, 1}, Coefs: []api.Rat{half, half}}, {Vars: []int{1, 1}, Coefs: []api.Rat{half, ratio(-3, 6)}},
		{C: third, Vars: []int{2, 1}, Coefs: []api.Rat{half, padded}}, {Vars: []int{2, 1, 2, 1}, Coefs: []api.Rat{half, third, third, long}},
		{C: padded, Vars: []int{math.MaxInt, math.MinInt, 0, -1}, Coefs: []api.Rat{half, third, long, padded}},
		{C: half, Vars: []int{math.MinInt, -1, 0, math.MaxInt}, Coefs: []api.Rat{half, third, ratio(1, 1), ratio(-7, 2)}},
		sum(0, 1, 1), sum(0, 2, 1), sum(0, 1, -1), sum(3, 1, 1), sum(0, 1, 2, 2, 4), sum(0, 1, 2, 2, -4, 3, 6), sum(0, -2, 1, -1, 1),
		{C: ratio(1, 1), Vars: []int{1, 4}, Coefs: []api.Rat{ratio(-2, 3), ratio(4, 1)}},
		{C: ratio(3, 1), Vars: []int{1, 2}, Coefs: []api.Rat{half, ratio(1, 1)}},
	}
}

// source hands out the same numbers at each run.
type source uint64

func (s *source) next() uint32 {
	*s = *s*6364136223846793005 + 1442695040888963407
	return uint32(*s >> 33)
}

func (s *source) limbs(most int) []uint32 {
	out := make([]uint32, s.next()%uint32(most+1))
	for i := range out {
		out[i] = s.next()<<1 ^ s.next()
	}
	return out
}

// fraction is small as often as not, so that many are alike, or 0.
func (s *source) fraction() api.Rat {
	if s.next()%4 > 0 {
		return ratio(int32(s.next()%13)-6, s.next()%5)
	}
	return api.Rat{N: api.Int{Neg: s.next()%2 == 0, Mag: s.limbs(2)}, D: s.limbs(2)}
}

func (s *source) variable() int { return int(s.next()%7) - 3 }

// lin has few variables, so that sums meet, in any order, some of them twice; its lists may be of two lengths.
func (s *source) lin() api.Lin {
	out := api.Lin{C: s.fraction()}
	for range s.next() % 6 {
		out.Vars = append(out.Vars, s.variable())
		out.Coefs = append(out.Coefs, s.fraction())
	}
	switch s.next() % 5 {
	case 0:
		out.Vars = append(out.Vars, s.variable())
	case 1:
		out.Coefs = append(out.Coefs, s.fraction())
	}
	return out
}

// place is vals of variables: some are there twice, some not at all, and the lists may be of two lengths.
func (s *source) place() ([]int, []api.Rat) {
	l := s.lin()
	return append(l.Vars, s.variable(), s.variable()), append(l.Coefs, s.fraction(), s.fraction())
}

// sums are edges, and many others.
func sums() []api.Lin {
	out := edges()
	s := source(1)
	for range 1500 {
		out = append(out, s.lin())
	}
	return out
}

// pairs are all edges beside each other, and many others.
func pairs() [][2]api.Lin {
	var out [][2]api.Lin
	for _, a := range edges() {
		for _, b := range edges() {
			out = append(out, [2]api.Lin{a, b})
		}
	}
	s := source(2)
	for range 2000 {
		out = append(out, [2]api.Lin{s.lin(), s.lin()})
	}
	return out
}

// plain is a sum by the library's fractions, in which no one of often is 0.
type plain struct {
	c     *ref.Rat
	often map[int]*ref.Rat
}

func wantLimbs(limbs []uint32) *ref.Int {
	n := new(ref.Int)
	for _, limb := range slices.Backward(limbs) {
		n.Lsh(n, 32)
		n.Or(n, ref.NewInt(int64(limb)))
	}
	return n
}

func wantRat(a api.Rat) *ref.Rat {
	n, d := wantLimbs(a.N.Mag), wantLimbs(a.D)
	if d.Sign() == 0 {
		d.SetInt64(1)
	}
	if a.N.Neg {
		n.Neg(n)
	}
	return new(ref.Rat).SetFrac(n, d)
}

// want is what l counts as.
func want(l api.Lin) plain {
	out := plain{c: wantRat(l.C), often: map[int]*ref.Rat{}}
	for i := range min(len(l.Vars), len(l.Coefs)) {
		out.put(l.Vars[i], wantRat(l.Coefs[i]))
	}
	return out
}

// put adds so many times v.
func (p plain) put(v int, often *ref.Rat) {
	all := new(ref.Rat).Add(p.of(v), often)
	p.often[v] = all
	if all.Sign() == 0 {
		delete(p.often, v)
	}
}

func (p plain) of(v int) *ref.Rat {
	if often := p.often[v]; often != nil {
		return often
	}
	return new(ref.Rat)
}

func (p plain) vars() []int { return slices.Sorted(maps.Keys(p.often)) }

// and is p and by times q.
func (p plain) and(q plain, by *ref.Rat) plain {
	out := plain{c: new(ref.Rat).Add(p.c, new(ref.Rat).Mul(q.c, by)), often: maps.Clone(p.often)}
	for v, often := range q.often {
		out.put(v, new(ref.Rat).Mul(often, by))
	}
	return out
}

func (p plain) scaled(by *ref.Rat) plain { return none().and(p, by) }

func none() plain { return plain{c: new(ref.Rat), often: map[int]*ref.Rat{}} }

func whole(n int64) *ref.Rat { return ref.NewRat(n, 1) }

func limbsOf(n *ref.Int) []uint32 {
	left := new(ref.Int).Abs(n)
	var out []uint32
	for mask := ref.NewInt(top); left.Sign() != 0; left.Rsh(left, 32) {
		out = append(out, uint32(new(ref.Int).And(left, mask).Uint64()))
	}
	return out
}

func fractionOf(x *ref.Rat) api.Rat {
	return api.Rat{N: api.Int{Neg: x.Sign() < 0, Mag: limbsOf(x.Num())}, D: limbsOf(x.Denom())}
}

// sumOf is the right sum of p.
func sumOf(p plain) api.Lin {
	out := api.Lin{C: fractionOf(p.c)}
	for _, v := range p.vars() {
		out.Vars = append(out.Vars, v)
		out.Coefs = append(out.Coefs, fractionOf(p.often[v]))
	}
	return out
}

// right is l as it counts.
func right(l api.Lin) api.Lin { return sumOf(want(l)) }

func textOf(p plain) string {
	out := ""
	for _, v := range p.vars() {
		out += p.often[v].RatString() + "v" + strconv.Itoa(v) + " "
	}
	return out + p.c.RatString()
}

func sameRat(a, b api.Rat) bool {
	return a.N.Neg == b.N.Neg && slices.Equal(a.N.Mag, b.N.Mag) && slices.Equal(a.D, b.D)
}

// same tells whether two sums are written alike, limb by limb.
func same(a, b api.Lin) bool {
	return sameRat(a.C, b.C) && slices.Equal(a.Vars, b.Vars) && slices.EqualFunc(a.Coefs, b.Coefs, sameRat)
}

func wantSame(t *testing.T, what string, got, must api.Lin) {
	t.Helper()
	if !same(got, must) {
		t.Errorf("%s: %v, not %v", what, got, must)
	}
}

func wantSum(t *testing.T, what string, got api.Lin, p plain) {
	t.Helper()
	wantSame(t, what, got, sumOf(p))
}

func wantFraction(t *testing.T, what string, got, must api.Rat) {
	t.Helper()
	if !sameRat(got, must) {
		t.Errorf("%s: %v, not %v", what, got, must)
	}
}

func wantText(t *testing.T, what string, got api.Lin, text string) {
	t.Helper()
	if s := lin.Text(got); s != text {
		t.Errorf("%s: %s, not %s", what, s, text)
	}
}

func fraction(t *testing.T, s string) api.Rat {
	t.Helper()
	a, ok := rat.Parse(s)
	if !ok {
		t.Fatalf("Parse of %s: false", s)
	}
	return a
}
