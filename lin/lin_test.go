package lin_test

import (
	"cmp"
	"math"
	ref "math/big"
	"slices"
	"testing"

	"litmus/api"
	"litmus/lin"
	"litmus/rat"
)

// P4.1

func TestRight(t *testing.T) {
	for _, l := range sums() {
		if got := lin.Right(l); got != same(l, right(l)) {
			t.Errorf("Right of %v: %v", l, got)
		}
		if !lin.Right(right(l)) {
			t.Errorf("Right of %v: false", right(l))
		}
	}
}

func TestRightAtEdges(t *testing.T) {
	one, half, zero := ratio(1, 1), ratio(1, 2), rat.From(0)
	for _, l := range []api.Lin{
		{C: zero}, {C: half, Vars: []int{}, Coefs: []api.Rat{}}, {C: zero, Vars: []int{-1}, Coefs: []api.Rat{half}},
		{C: one, Vars: []int{math.MinInt, math.MaxInt}, Coefs: []api.Rat{half, one}}, sum(-4, -2, -1, 0, 5, 9, 1),
	} {
		if !lin.Right(l) {
			t.Errorf("Right of %v: false", l)
		}
	}
	for _, l := range []api.Lin{
		{}, {C: ratio(2, 4)}, {C: api.Rat{N: api.Int{Neg: true}, D: mag(1)}}, {C: api.Rat{N: api.Int{Mag: mag(1, 0)}, D: mag(2)}},
		{C: zero, Vars: []int{1}}, {C: zero, Coefs: []api.Rat{one}}, {C: zero, Vars: []int{1, 2}, Coefs: []api.Rat{one}}, {C: zero, Vars: []int{1}, Coefs: []api.Rat{one, one}},
		{C: zero, Vars: []int{2, 1}, Coefs: []api.Rat{one, one}}, {C: zero, Vars: []int{1, 1}, Coefs: []api.Rat{one, one}}, {C: zero, Vars: []int{math.MaxInt, math.MinInt}, Coefs: []api.Rat{one, one}},
		{C: zero, Vars: []int{1}, Coefs: []api.Rat{zero}}, {C: zero, Vars: []int{1, 2}, Coefs: []api.Rat{one, zero}}, {C: zero, Vars: []int{1, 2}, Coefs: []api.Rat{one, {}}},
		{C: zero, Vars: []int{1}, Coefs: []api.Rat{ratio(2, 2)}}, {C: zero, Vars: []int{1, 2}, Coefs: []api.Rat{one, ratio(3, 6)}}, {C: zero, Vars: []int{1}, Coefs: []api.Rat{{N: api.Int{Mag: mag(1)}}}},
	} {
		if lin.Right(l) {
			t.Errorf("Right of %v: true", l)
		}
	}
}

func TestConst(t *testing.T) {
	for _, l := range sums() {
		wantSum(t, "Const", lin.Const(l.C), plain{c: wantRat(l.C)})
	}
}

func TestVar(t *testing.T) {
	for _, v := range []int{0, 1, -1, 7, math.MaxInt, math.MinInt} {
		wantSame(t, "Var", lin.Var(v), api.Lin{C: rat.From(0), Vars: []int{v}, Coefs: []api.Rat{rat.From(1)}})
	}
}

func TestAddAndSub(t *testing.T) {
	for _, p := range pairs() {
		a, b := want(p[0]), want(p[1])
		wantSum(t, "Add", lin.Add(p[0], p[1]), a.and(b, whole(1)))
		wantSum(t, "Sub", lin.Sub(p[0], p[1]), a.and(b, whole(-1)))
	}
}

func TestAddOfNoneAndOne(t *testing.T) {
	wantSum(t, "Add of none", lin.Add(), none())
	wantSum(t, "Add of an empty list", lin.Add([]api.Lin{}...), none())
	for _, l := range sums() {
		wantSum(t, "Add of one", lin.Add(l), want(l))
	}
}

func TestAddOfMany(t *testing.T) {
	s := source(3)
	for n := range 40 {
		var l []api.Lin
		all := none()
		for range n {
			l = append(l, s.lin())
			all = all.and(want(l[len(l)-1]), whole(1))
		}
		wantSum(t, "Add of many", lin.Add(l...), all)
	}
}

func TestScale(t *testing.T) {
	for _, p := range pairs() {
		by := p[1].C
		wantSum(t, "Scale", lin.Scale(p[0], by), want(p[0]).scaled(wantRat(by)))
		wantSum(t, "Scale by nothing", lin.Scale(p[0], api.Rat{}), none())
	}
}

func TestCoef(t *testing.T) {
	for _, l := range sums() {
		p := want(l)
		for _, v := range append([]int{-4, -3, -2, -1, 0, 1, 2, 3, 4, math.MaxInt, math.MinInt}, l.Vars...) {
			wantFraction(t, "Coef", lin.Coef(l, v), fractionOf(p.of(v)))
		}
	}
}

// P4.2

// wantPut is p with q for v.
func wantPut(p plain, v int, q plain) plain {
	often := p.of(v)
	out := p.and(none(), whole(1))
	delete(out.often, v)
	return out.and(q, often)
}

func TestPut(t *testing.T) {
	for _, p := range pairs() {
		for _, v := range []int{-2, 0, 1, 2, math.MaxInt, math.MinInt} {
			wantSum(t, "Put", lin.Put(p[0], v, p[1]), wantPut(want(p[0]), v, want(p[1])))
		}
	}
}

func TestPutOfFew(t *testing.T) {
	l := sum(5, 1, 2, 2, 3)
	wantText(t, "v in what is put", lin.Put(l, 1, sum(1, 1, 1)), "2v1 3v2 7")
	wantText(t, "v twice in what is put", lin.Put(l, 1, sum(0, 1, 2)), "4v1 3v2 5")
	wantText(t, "v itself", lin.Put(l, 1, lin.Var(1)), "2v1 3v2 5")
	wantText(t, "another one", lin.Put(l, 1, lin.Var(2)), "5v2 5")
	wantText(t, "one that goes", lin.Put(l, 2, api.Lin{}), "2v1 5")
	wantText(t, "one that is not there", lin.Put(l, 3, sum(7, 1, 1)), "2v1 3v2 5")
	wantText(t, "one against another", lin.Put(sum(0, 1, 1, 2, -1), 1, lin.Var(2)), "0")
}

// wantAt is p where the first val beside a variable is its number, and it is 0 without one.
func wantAt(p plain, vars []int, vals []api.Rat) *ref.Rat {
	out := new(ref.Rat).Set(p.c)
	for v, often := range p.often {
		if i := slices.Index(vars, v); i >= 0 && i < len(vals) {
			out.Add(out, new(ref.Rat).Mul(often, wantRat(vals[i])))
		}
	}
	return out
}

func TestAt(t *testing.T) {
	s := source(4)
	for _, l := range sums() {
		for range 3 {
			vars, vals := s.place()
			wantFraction(t, "At", lin.At(l, vars, vals), fractionOf(wantAt(want(l), vars, vals)))
		}
		wantFraction(t, "At nothing", lin.At(l, nil, nil), fractionOf(wantRat(l.C)))
		wantFraction(t, "At variables alone", lin.At(l, l.Vars, nil), fractionOf(wantRat(l.C)))
		wantFraction(t, "At vals alone", lin.At(l, nil, l.Coefs), fractionOf(wantRat(l.C)))
	}
}

func TestAtOfFew(t *testing.T) {
	l := sum(1, 1, 10, 2, 100)
	for _, c := range []struct {
		vars []int
		vals []api.Rat
		want int64
	}{
		{[]int{1, 2}, []api.Rat{ratio(3, 1), ratio(4, 1)}, 431},
		{[]int{2, 1}, []api.Rat{ratio(3, 1), ratio(4, 1)}, 341},
		{[]int{1, 1, 2}, []api.Rat{ratio(3, 1), ratio(4, 1), ratio(5, 1)}, 531},
		{[]int{1, 1, 1}, []api.Rat{{}, ratio(4, 1), ratio(5, 1)}, 1},
		{[]int{2}, []api.Rat{ratio(3, 1), ratio(4, 1)}, 301},
		{[]int{3, 2, 1}, []api.Rat{ratio(3, 1), ratio(4, 1)}, 401},
		{[]int{1}, []api.Rat{{N: api.Int{Neg: true, Mag: mag(6, 0)}, D: mag(4)}}, -14},
	} {
		wantFraction(t, "At", lin.At(l, c.vars, c.vals), rat.From(c.want))
	}
}

// P4.3

// wantWhole takes p so often as what all Ds go into, divided by what goes into all Ns then.
func wantWhole(p plain) plain {
	if len(p.often) == 0 {
		return plain{c: whole(int64(p.c.Sign()))}
	}
	times := ref.NewInt(1)
	for _, often := range p.often {
		times.Mul(times, often.Denom())
	}
	p = p.scaled(new(ref.Rat).SetInt(times))
	shared := new(ref.Int)
	for _, often := range p.often {
		shared.GCD(nil, nil, shared, new(ref.Int).Abs(often.Num()))
	}
	return p.scaled(new(ref.Rat).SetFrac(ref.NewInt(1), shared))
}

func TestWhole(t *testing.T) {
	for _, l := range sums() {
		wantSum(t, "Whole", lin.Whole(l), wantWhole(want(l)))
	}
}

func TestWholeOfFew(t *testing.T) {
	for _, c := range []struct {
		l    api.Lin
		want string
	}{
		{api.Lin{}, "0"}, {lin.Const(ratio(5, 3)), "1"}, {lin.Const(ratio(-5, 3)), "-1"}, {api.Lin{C: ratio(4, 2), Vars: []int{1}, Coefs: []api.Rat{{}}}, "1"},
		{api.Lin{C: ratio(-7, 2), Vars: []int{1, 1}, Coefs: []api.Rat{ratio(1, 2), ratio(-2, 4)}}, "-1"},
		{sum(3, 1, 6), "1v1 1/2"}, {sum(3, 1, -6), "-1v1 1/2"}, {sum(9, 1, 6, 2, -9), "2v1 -3v2 3"}, {sum(5, 1, 2, 2, 3), "2v1 3v2 5"}, {sum(-4, 1, -2, 2, -4), "-1v1 -2v2 -2"},
		{api.Lin{C: ratio(1, 5), Vars: []int{1, 2}, Coefs: []api.Rat{ratio(1, 6), ratio(-3, 4)}}, "2v1 -9v2 12/5"},
		{api.Lin{Vars: []int{2, 1}, Coefs: []api.Rat{ratio(10, 4), ratio(20, 6)}}, "4v1 3v2 0"},
	} {
		wantText(t, "Whole", lin.Whole(c.l), c.want)
	}
}

// No lesser fraction above 0 makes all Coefs whole: those that do are the multiples of the least one.
func TestWholeIsByTheLeast(t *testing.T) {
	s := source(5)
	for range 300 {
		l := api.Lin{C: ratio(int32(s.next()%5)-2, 3)}
		for v := range 1 + s.next()%3 {
			l.Vars = append(l.Vars, int(v))
			l.Coefs = append(l.Coefs, ratio(int32(s.next()%12)+1, s.next()%6+1))
		}
		must := ref.NewRat(60, 1)
		for n := int64(1); n <= 60; n++ {
			for d := int64(1); d <= 12; d++ {
				if by := ref.NewRat(n, d); by.Cmp(must) < 0 && allWhole(want(l).scaled(by)) {
					must = by
				}
			}
		}
		wantSum(t, "Whole by the least", lin.Whole(l), want(l).scaled(must))
	}
}

func allWhole(p plain) bool {
	for _, often := range p.often {
		if !often.IsInt() {
			return false
		}
	}
	return true
}

// P4.4

func wantCmp(p, q plain) int {
	a, b := p.vars(), q.vars()
	if len(a) != len(b) {
		return cmp.Compare(len(a), len(b))
	}
	for i, v := range a {
		if v != b[i] {
			return cmp.Compare(v, b[i])
		}
		if order := p.often[v].Cmp(q.often[v]); order != 0 {
			return order
		}
	}
	return p.c.Cmp(q.c)
}

func TestCmpAndSame(t *testing.T) {
	for _, p := range pairs() {
		must := wantCmp(want(p[0]), want(p[1]))
		if got := lin.Cmp(p[0], p[1]); got != must {
			t.Errorf("Cmp of %v and %v: %d", p[0], p[1], got)
		}
		if got := lin.Same(p[0], p[1]); got != (must == 0) {
			t.Errorf("Same of %v and %v: %v", p[0], p[1], got)
		}
	}
}

// Each of these is less than all behind it.
func TestCmpInOrder(t *testing.T) {
	row := []api.Lin{
		lin.Const(ratio(-9, 1)), {}, lin.Const(ratio(1, 3)), lin.Const(ratio(1, 2)),
		sum(9, math.MinInt, 9), sum(0, -1, 5), sum(8, 0, -1), sum(7, 1, -2), sum(6, 1, -1), sum(-5, 1, 1), sum(5, 1, 1), sum(0, 2, -1), sum(0, math.MaxInt, -9),
		sum(9, 1, -1, 9, 9), sum(0, 1, 1, 2, 7), sum(0, 1, 1, 3, -7), sum(-2, 1, 1, 3, 4), sum(-1, 1, 1, 3, 4), sum(-9, 1, 2, 2, 1), sum(0, 2, 1, 3, 1),
		sum(-9, -3, -9, -2, -9, -1, -9),
	}
	for i, a := range row {
		for j, b := range row {
			if got := lin.Cmp(a, b); got != cmp.Compare(i, j) {
				t.Errorf("Cmp of %s and %s: %d", lin.Text(a), lin.Text(b), got)
			}
			if lin.Same(a, b) != (i == j) {
				t.Errorf("Same of %s and %s", lin.Text(a), lin.Text(b))
			}
		}
	}
}

func TestText(t *testing.T) {
	for _, l := range sums() {
		if got := lin.Text(l); got != textOf(want(l)) {
			t.Errorf("Text of %v: %s", l, got)
		}
	}
	wantText(t, "Text of none", api.Lin{}, "0")
	wantText(t, "Text of far variables", sum(-3, math.MaxInt, -2, math.MinInt, 1), "1v-9223372036854775808 -2v9223372036854775807 -3")
	wantText(t, "Text of one that is not right", api.Lin{C: ratio(2, 4), Vars: []int{0, -1, 0}, Coefs: []api.Rat{ratio(1, 3), ratio(-4, 6), ratio(1, 3)}}, "-2/3v-1 2/3v0 1/2")
}

func TestExamples(t *testing.T) {
	half := fraction(t, "1/2")
	l := lin.Add(lin.Var(2), lin.Scale(lin.Var(1), half), lin.Const(rat.From(3)))
	wantText(t, "Add", l, "1/2v1 1v2 3")
	wantText(t, "Put", lin.Put(l, 2, lin.Scale(lin.Var(1), fraction(t, "-1/2"))), "3")
	wantFraction(t, "At", lin.At(l, []int{2, 1}, []api.Rat{rat.From(5), rat.From(4)}), rat.From(10))
	wantText(t, "Whole", lin.Whole(api.Lin{C: rat.From(1), Vars: []int{1, 4}, Coefs: []api.Rat{fraction(t, "-2/3"), rat.From(4)}}), "-1v1 6v4 3/2")
	wantText(t, "Whole", lin.Whole(lin.Add(lin.Scale(lin.Var(1), fraction(t, "-2/3")), lin.Scale(lin.Var(5), rat.From(4)), lin.Const(rat.From(1)))), "-1v1 6v5 3/2")
	wantText(t, "Whole of a number", lin.Whole(lin.Const(fraction(t, "-1/7"))), "-1")
	wantText(t, "Add of none", lin.Add(), "0")
}
