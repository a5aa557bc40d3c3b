package lin_test

import (
	"slices"
	"testing"

	"litmus/api"
	"litmus/lin"
	"litmus/rat"
)

// P4.5

func triples() [][3]api.Lin {
	var out [][3]api.Lin
	all := edges()
	s := source(6)
	for range 1500 {
		a, b, c := s.next()%uint32(len(all)), s.next()%uint32(len(all)), s.next()%uint32(len(all))
		out = append(out, [3]api.Lin{all[a], all[b], all[c]}, [3]api.Lin{s.lin(), s.lin(), s.lin()})
	}
	return out
}

func TestRoomOverFractions(t *testing.T) {
	s := source(7)
	for _, x := range triples() {
		a, b, c := x[0], x[1], x[2]
		p, q := s.fraction(), s.fraction()
		wantSame(t, "sums turned round", lin.Add(a, b), lin.Add(b, a))
		wantSame(t, "three turned round", lin.Add(a, b, c), lin.Add(c, a, b))
		wantSame(t, "sums grouped", lin.Add(lin.Add(a, b), c), lin.Add(a, lin.Add(b, c)))
		wantSame(t, "three at once", lin.Add(a, b, c), lin.Add(lin.Add(a, b), c))
		wantSame(t, "a and 0", lin.Add(a, lin.Add()), right(a))
		wantSame(t, "a less a", lin.Sub(a, a), lin.Add())
		wantSame(t, "Sub by Scale", lin.Sub(a, b), lin.Add(a, lin.Scale(b, rat.From(-1))))
		wantSame(t, "what is taken away", lin.Add(lin.Sub(a, b), b), right(a))
		wantSame(t, "once", lin.Scale(a, rat.From(1)), right(a))
		wantSame(t, "twice", lin.Scale(a, rat.From(2)), lin.Add(a, a))
		wantSame(t, "times of times", lin.Scale(lin.Scale(a, p), q), lin.Scale(a, rat.Mul(p, q)))
		wantSame(t, "times of a sum", lin.Scale(lin.Add(a, b), p), lin.Add(lin.Scale(a, p), lin.Scale(b, p)))
		wantSame(t, "a sum of times", lin.Scale(a, rat.Add(p, q)), lin.Add(lin.Scale(a, p), lin.Scale(a, q)))
	}
}

// What a sum is made of makes it again.
func TestPartsMakeASum(t *testing.T) {
	for _, l := range sums() {
		made := lin.Const(l.C)
		for _, v := range slices.Compact(slices.Sorted(slices.Values(l.Vars))) {
			made = lin.Add(made, lin.Scale(lin.Var(v), lin.Coef(l, v)))
		}
		wantSame(t, "made of its parts", made, right(l))
	}
}

func TestAtGoesWithSums(t *testing.T) {
	s := source(8)
	for _, x := range triples() {
		a, b, by := x[0], x[1], s.fraction()
		vars, vals := s.place()
		atA, atB := lin.At(a, vars, vals), lin.At(b, vars, vals)
		wantFraction(t, "At of Add", lin.At(lin.Add(a, b), vars, vals), rat.Add(atA, atB))
		wantFraction(t, "At of Sub", lin.At(lin.Sub(a, b), vars, vals), rat.Sub(atA, atB))
		wantFraction(t, "At of Scale", lin.At(lin.Scale(a, by), vars, vals), rat.Mul(atA, by))
		wantFraction(t, "At of Const", lin.At(lin.Const(by), vars, vals), rat.Add(by, rat.From(0)))
	}
}

func TestPutGoesWithAt(t *testing.T) {
	s := source(9)
	for _, x := range triples() {
		l, m, n := x[0], x[1], x[2]
		v, by := s.variable(), s.fraction()
		vars, vals := s.place()
		// The first one counts: so v is what m is there, and all others are as they were.
		putVars := append([]int{v}, vars...)
		putVals := append([]api.Rat{lin.At(m, vars, vals)}, vals...)
		wantFraction(t, "At of Put", lin.At(lin.Put(l, v, m), vars, vals), lin.At(l, putVars, putVals))
		wantSame(t, "Put of itself", lin.Put(l, v, lin.Var(v)), right(l))
		wantSame(t, "Put in Add", lin.Put(lin.Add(l, n), v, m), lin.Add(lin.Put(l, v, m), lin.Put(n, v, m)))
		wantSame(t, "Put in Scale", lin.Put(lin.Scale(l, by), v, m), lin.Scale(lin.Put(l, v, m), by))
		wantSame(t, "Put in Var", lin.Put(lin.Var(v), v, m), right(m))
		if without := lin.Put(m, v, lin.Const(by)); rat.Sign(lin.Coef(lin.Put(l, v, without), v)) != 0 {
			t.Errorf("%d is left, with %v put for it", v, without)
		}
	}
}

func TestWholeHasTheSameSigns(t *testing.T) {
	s := source(10)
	for _, l := range sums() {
		all := lin.Whole(l)
		wantSame(t, "Whole of Whole", lin.Whole(all), all)
		broken := func(often api.Rat) bool { return !rat.Whole(often) }
		if !slices.Equal(all.Vars, right(l).Vars) || slices.ContainsFunc(all.Coefs, broken) {
			t.Errorf("Whole of %v: %v", l, all)
		}
		for range 4 {
			vars, vals := s.place()
			if rat.Sign(lin.At(all, vars, vals)) != rat.Sign(lin.At(l, vars, vals)) {
				t.Errorf("Whole of %v turns its sign at %v %v", l, vars, vals)
			}
		}
		if by := s.fraction(); rat.Sign(by) > 0 {
			wantSame(t, "Whole of so many times", lin.Whole(lin.Scale(l, by)), all)
		}
	}
}

func TestOrder(t *testing.T) {
	for _, x := range triples() {
		a, b, c := x[0], x[1], x[2]
		order := lin.Cmp(a, b)
		if lin.Cmp(b, a) != -order || lin.Cmp(a, a) != 0 || !lin.Same(a, a) {
			t.Errorf("Cmp of %v and %v turned round", a, b)
		}
		if order <= 0 && lin.Cmp(b, c) <= 0 && lin.Cmp(a, c) > 0 {
			t.Errorf("%v, %v, %v are not in order", a, b, c)
		}
		if same(right(a), right(b)) != (order == 0) || (lin.Text(a) == lin.Text(b)) != (order == 0) || lin.Same(a, b) != (order == 0) {
			t.Errorf("%v and %v: alike, or not?", a, b)
		}
	}
}

// What holds of sums, whatever the call.

// answers are those of all calls that answer sums, and fractions as such.
func answers(a, b api.Lin, vars []int, vals []api.Rat) []api.Lin {
	by, v := b.C, 1
	if len(vals) > 0 && len(vars) > 0 {
		by, v = vals[0], vars[0]
	}
	return []api.Lin{
		lin.Const(by), lin.Var(v), lin.Add(), lin.Add(a), lin.Add(a, b), lin.Add(a, b, a, b, b), lin.Sub(a, b), lin.Sub(b, b),
		lin.Scale(a, by), lin.Scale(a, rat.From(1)), lin.Scale(a, api.Rat{}), {C: lin.Coef(a, v)}, {C: lin.Coef(b, 77)},
		lin.Put(a, v, b), lin.Put(a, 77, b), lin.Put(a, v, a), {C: lin.At(a, vars, vals)}, {C: lin.At(b, nil, nil)}, lin.Whole(a), lin.Whole(b),
	}
}

// few are enough to be held against each other, one and all.
func few() []api.Lin {
	s := source(11)
	return append(edges(), s.lin(), s.lin(), s.lin(), s.lin())
}

func TestAnswersAreRight(t *testing.T) {
	s := source(12)
	for _, a := range few() {
		for _, b := range few() {
			vars, vals := s.place()
			for i, out := range answers(a, b, vars, vals) {
				if !same(out, right(out)) || !lin.Right(out) {
					t.Errorf("answer %d of %v and %v: %v", i, a, b, out)
				}
			}
		}
	}
}

func TestOthersCountAsTheRightOnes(t *testing.T) {
	s := source(13)
	for _, a := range few() {
		for _, b := range few() {
			vars, vals := s.place()
			plain := answers(right(a), right(b), vars, vals)
			for i, out := range answers(a, b, vars, vals) {
				wantSame(t, "of sums that are not right", out, plain[i])
			}
			if lin.Cmp(a, b) != lin.Cmp(right(a), right(b)) || lin.Text(a) != lin.Text(right(a)) {
				t.Errorf("Cmp of %v and %v, or Text", a, b)
			}
		}
	}
}

// room has lists with room behind them, into which an append would write.
type room struct {
	limbs [][]uint32
	vars  [][]int
	coefs [][]api.Rat
}

func (r *room) limbsOf(a []uint32) []uint32 {
	list := append(slices.Clone(a), 17, 18)
	r.limbs = append(r.limbs, list)
	return list[:len(a)]
}

func (r *room) fraction(a api.Rat) api.Rat {
	return api.Rat{N: api.Int{Neg: a.N.Neg, Mag: r.limbsOf(a.N.Mag)}, D: r.limbsOf(a.D)}
}

func (r *room) varsOf(l []int) []int {
	list := append(slices.Clone(l), 19, 20)
	r.vars = append(r.vars, list)
	return list[:len(l)]
}

func (r *room) fractions(l []api.Rat) []api.Rat {
	var list []api.Rat
	for _, a := range l {
		list = append(list, r.fraction(a))
	}
	list = append(list, r.fraction(ratio(21, 22)))
	r.coefs = append(r.coefs, list)
	return list[:len(l)]
}

func (r *room) sum(l api.Lin) api.Lin {
	return api.Lin{C: r.fraction(l.C), Vars: r.varsOf(l.Vars), Coefs: r.fractions(l.Coefs)}
}

// copied has the same numbers in memory of its own.
func (r *room) copied() room {
	var out room
	for _, list := range r.limbs {
		out.limbs = append(out.limbs, slices.Clone(list))
	}
	for _, list := range r.vars {
		out.vars = append(out.vars, slices.Clone(list))
	}
	for _, list := range r.coefs {
		var all []api.Rat
		for _, a := range list {
			all = append(all, api.Rat{N: api.Int{Neg: a.N.Neg, Mag: slices.Clone(a.N.Mag)}, D: slices.Clone(a.D)})
		}
		out.coefs = append(out.coefs, all)
	}
	return out
}

func (r *room) same(s room) bool {
	return slices.EqualFunc(r.limbs, s.limbs, slices.Equal[[]uint32]) && slices.EqualFunc(r.vars, s.vars, slices.Equal[[]int]) &&
		slices.EqualFunc(r.coefs, s.coefs, func(a, b []api.Rat) bool { return slices.EqualFunc(a, b, sameRat) })
}

// limbLists are all lists of limbs of sums, each up to its room's end.
func limbLists(l []api.Lin) [][]uint32 {
	var out [][]uint32
	for _, a := range l {
		for _, f := range append([]api.Rat{a.C}, a.Coefs...) {
			out = append(out, f.N.Mag[:cap(f.N.Mag)], f.D[:cap(f.D)])
		}
	}
	return out
}

// spoil writes into every list of the answers, one behind the other, and tells whether each was written into just once.
func spoil(l []api.Lin) bool {
	lists := limbLists(l)
	kept := make([][]uint32, len(lists))
	for i, list := range lists {
		kept[i] = slices.Clone(list)
		for j := range list {
			list[j] ^= uint32(i + 1)
			kept[i][j] ^= uint32(i + 1)
		}
	}
	once := slices.EqualFunc(lists, kept, slices.Equal[[]uint32])
	for _, a := range l {
		vars, coefs := a.Vars[:cap(a.Vars)], a.Coefs[:cap(a.Coefs)]
		for j := range vars {
			vars[j] ^= 0x5a5a
		}
		for j := range coefs {
			coefs[j] = api.Rat{}
		}
	}
	return once
}

func TestArgumentsStayAndAnswersAreNew(t *testing.T) {
	s := source(14)
	for _, a := range few() {
		for _, b := range few() {
			vars, vals := s.place()
			var r room
			argA, argB := r.sum(a), r.sum(b)
			argVars, argVals := r.varsOf(vars), r.fractions(vals)
			kept := r.copied()
			outs := answers(argA, argB, argVars, argVals)
			lin.Right(argA)
			lin.Cmp(argA, argB)
			lin.Same(argA, argB)
			lin.Text(argA)
			if !r.same(kept) {
				t.Fatalf("an argument of %v and %v is changed", a, b)
			}
			if !spoil(outs) || !r.same(kept) {
				t.Fatalf("answers of %v and %v share memory", a, b)
			}
		}
	}
}

// No two answers share their lists of variables or fractions.
func TestListsOfAnswersAreTheirOwn(t *testing.T) {
	for _, a := range few() {
		outs := answers(a, a, a.Vars, a.Coefs)
		must := answers(a, a, a.Vars, a.Coefs)
		for i := range outs {
			spoil(outs[i : i+1])
			for j := i + 1; j < len(outs); j++ {
				wantSame(t, "an answer behind one that is spoiled", outs[j], must[j])
			}
		}
	}
}

func TestListOfSumsStays(t *testing.T) {
	s := source(15)
	for n := range 7 {
		row := make([]api.Lin, n+1)
		for i := range row {
			row[i] = s.lin()
		}
		kept := slices.Clone(row)
		lin.Add(row[:n]...)
		for i := range row {
			wantSame(t, "a sum of the row", row[i], kept[i])
		}
	}
}

func TestOneForAllArguments(t *testing.T) {
	for _, a := range sums() {
		var r room
		apart := r.sum(a)
		must := answers(apart, a, a.Vars, a.Coefs)
		for i, out := range answers(a, a, a.Vars, a.Coefs) {
			wantSame(t, "of one sum", out, must[i])
		}
		wantSame(t, "the sum", a, apart)
	}
}

// What a call answers hangs on what it was given alone, and never on how a map lies.
func TestSameAgain(t *testing.T) {
	s := source(16)
	var l api.Lin
	for v := range 60 {
		l.Vars = append(l.Vars, (v*37)%61)
		l.Coefs = append(l.Coefs, s.fraction())
	}
	for range 50 {
		wantSame(t, "again", lin.Add(l, l), lin.Scale(l, rat.From(2)))
		wantText(t, "again", l, textOf(want(l)))
	}
}

// P1 of the whole: long sums come to an end, and soon enough.
func TestLongSums(t *testing.T) {
	var l api.Lin
	var vals []api.Rat
	for i := range 20000 {
		l.Vars = append(l.Vars, 20000-i)
		l.Coefs = append(l.Coefs, ratio(int32(i+1), 6))
		vals = append(vals, ratio(6, uint32(i+1)))
	}
	wantFraction(t, "At", lin.At(l, l.Vars, vals), rat.From(20000))
	wantSame(t, "a long sum and the same below 0", lin.Add(l, lin.Scale(l, rat.From(-1))), lin.Add())
	all := lin.Whole(l)
	if len(all.Vars) != 20000 || all.Vars[0] != 1 || lin.Cmp(all, l) == 0 {
		t.Error("Whole of a long sum")
	}
	row := slices.Repeat([]api.Lin{sum(1, 1, 2, 3, 4)}, 20000)
	wantText(t, "a long row", lin.Add(row...), "40000v1 80000v3 20000")
}

// Fractions of many unlike Ds grow long together.
func TestLongFractions(t *testing.T) {
	var l api.Lin
	for i := range 600 {
		l.Vars = append(l.Vars, 5)
		l.Coefs = append(l.Coefs, ratio(1, top-uint32(i)))
	}
	once := lin.Coef(l, 5)
	wantFraction(t, "Coef", lin.At(l, []int{5}, []api.Rat{rat.From(1)}), once)
	wantSame(t, "Add", lin.Add(l), lin.Scale(lin.Var(5), once))
	wantText(t, "Whole", lin.Whole(l), "1v5 0")
}
