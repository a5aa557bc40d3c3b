package rat_test

import (
	"slices"
	"testing"

	"litmus/api"
	"litmus/rat"
)

// P3.4

func TestField(t *testing.T) {
	zero, one := rat.From(0), rat.From(1)
	for _, x := range triples() {
		a, b, c := x[0], x[1], x[2]
		wantSame(t, "sums turned round", rat.Add(a, b), rat.Add(b, a))
		wantSame(t, "sums grouped", rat.Add(rat.Add(a, b), c), rat.Add(a, rat.Add(b, c)))
		wantSame(t, "a and 0", rat.Add(a, zero), right(a))
		wantSame(t, "a and less a", rat.Add(a, rat.Neg(a)), zero)
		wantSame(t, "Sub by Neg", rat.Sub(a, b), rat.Add(a, rat.Neg(b)))
		wantSame(t, "what is taken away", rat.Add(rat.Sub(a, b), b), right(a))
		wantSame(t, "products turned round", rat.Mul(a, b), rat.Mul(b, a))
		wantSame(t, "products grouped", rat.Mul(rat.Mul(a, b), c), rat.Mul(a, rat.Mul(b, c)))
		wantSame(t, "1 times a", rat.Mul(one, a), right(a))
		wantSame(t, "a product spread", rat.Mul(a, rat.Add(b, c)), rat.Add(rat.Mul(a, b), rat.Mul(a, c)))
		q, e := rat.Div(a, b)
		if (e == api.OK) != (rat.Sign(b) != 0) {
			t.Errorf("Div of %v by %v: %v", a, b, e)
		}
		if e == api.OK {
			wantSame(t, "what is divided is had again", rat.Mul(q, b), right(a))
			over, _ := rat.Div(one, b)
			wantSame(t, "b and 1 divided by b", rat.Mul(b, over), one)
			wantSame(t, "Div by Mul", q, rat.Mul(a, over))
		}
	}
}

func TestOrder(t *testing.T) {
	for _, x := range triples() {
		a, b, c := x[0], x[1], x[2]
		order := rat.Cmp(a, b)
		if rat.Cmp(b, a) != -order || rat.Cmp(a, a) != 0 {
			t.Errorf("Cmp of %v and %v turned round", a, b)
		}
		if rat.Sign(rat.Sub(a, b)) != order || rat.Cmp(a, rat.From(0)) != rat.Sign(a) {
			t.Errorf("Sign and Cmp of %v and %v", a, b)
		}
		if order <= 0 && rat.Cmp(b, c) <= 0 && rat.Cmp(a, c) > 0 {
			t.Errorf("%v, %v, %v are not in order", a, b, c)
		}
		if rat.Cmp(rat.Add(a, c), rat.Add(b, c)) != order {
			t.Errorf("a sum with %v turns %v and %v round", c, a, b)
		}
		if rat.Cmp(rat.Mul(a, c), rat.Mul(b, c)) != order*rat.Sign(c) {
			t.Errorf("a product with %v of %v and %v", c, a, b)
		}
		if same(right(a), right(b)) != (order == 0) {
			t.Errorf("%v and %v: two right ones of one number", a, b)
		}
	}
}

func TestFloorAndCeilAreNear(t *testing.T) {
	for _, p := range pairs() {
		a := p[0]
		low, high := rat.Int(rat.Floor(a)), rat.Int(rat.Ceil(a))
		if rat.Cmp(low, a) > 0 || rat.Cmp(rat.Add(low, rat.From(1)), a) <= 0 {
			t.Errorf("Floor of %v: %v", a, low)
		}
		if rat.Cmp(high, a) < 0 || rat.Cmp(rat.Sub(high, rat.From(1)), a) >= 0 {
			t.Errorf("Ceil of %v: %v", a, high)
		}
		if rat.Whole(a) != same(low, high) {
			t.Errorf("Whole of %v", a)
		}
	}
}

func TestTextsAreReadBack(t *testing.T) {
	for _, p := range pairs() {
		wantSame(t, "read back", parsed(t, rat.Text(p[0])), right(p[0]))
		if (rat.Text(p[0]) == rat.Text(p[1])) != (rat.Cmp(p[0], p[1]) == 0) {
			t.Errorf("texts of %v and %v", p[0], p[1])
		}
	}
}

// What is taken as a text is what Text would write: so no fraction has two.
func TestOneTextOfEach(t *testing.T) {
	s := source(4)
	taken := 0
	for range 60000 {
		text := make([]byte, s.next()%9)
		for i := range text {
			text[i] = "-//0123456"[s.next()%10]
		}
		a, ok := rat.Parse(string(text))
		if ok && (rat.Text(a) != string(text) || !rat.Right(a)) {
			t.Errorf("%s and %s are one fraction", text, rat.Text(a))
		}
		if ok && len(a.D) == 1 && a.D[0] > 1 {
			taken++
		}
	}
	if taken < 1000 {
		t.Error("few fractions were taken:", taken)
	}
}

// What holds of fractions, whatever the call.

// answers are those of all calls that answer fractions, those beside an error or a false too, and whole numbers as such.
func answers(a, b api.Rat) []api.Rat {
	back, _ := rat.Parse(rat.Text(a))
	noOne, _ := rat.Parse(rat.Text(a) + "/1")
	over, _ := rat.Div(a, b)
	byNothing, _ := rat.Div(a, api.Rat{})
	of, _ := rat.Of(a.N, b.N)
	ofNothing, _ := rat.Of(a.N, api.Int{})
	return []api.Rat{
		rat.Int(a.N), rat.Neg(a), rat.Add(a, b), rat.Sub(a, b), rat.Mul(a, b), back, noOne, over, byNothing, of, ofNothing,
		{N: rat.Floor(a), D: []uint32{1}}, {N: rat.Ceil(a), D: []uint32{1}},
	}
}

// few are enough edges to be held against each other, one and all.
func few() []api.Rat {
	var out []api.Rat
	for i, a := range edges() {
		if i%5 == 0 {
			out = append(out, a)
		}
	}
	s := source(5)
	return append(out, s.fraction(4), s.fraction(6), s.fraction(8))
}

func TestAnswersAreRight(t *testing.T) {
	for _, a := range few() {
		for _, b := range few() {
			for i, out := range answers(a, b) {
				if !same(out, right(out)) || !rat.Right(out) {
					t.Errorf("answer %d of %v and %v: %v", i, a, b, out)
				}
			}
		}
	}
}

func TestOthersCountAsTheRightOnes(t *testing.T) {
	for _, a := range few() {
		for _, b := range few() {
			x, y := right(a), right(b)
			wantSame(t, "Add", rat.Add(a, b), rat.Add(x, y))
			wantSame(t, "Sub", rat.Sub(a, b), rat.Sub(x, y))
			wantSame(t, "Mul", rat.Mul(a, b), rat.Mul(x, y))
			q, e := rat.Div(a, b)
			must, f := rat.Div(x, y)
			wantSame(t, "Div", q, must)
			if e != f || rat.Cmp(a, b) != rat.Cmp(x, y) {
				t.Errorf("Div or Cmp of %v and %v", a, b)
			}
		}
	}
}

// roomy is a with room behind its limbs, into which an append would write.
func roomy(a api.Rat) (fraction api.Rat, rooms [2][]uint32) {
	rooms = [2][]uint32{append(slices.Clone(a.N.Mag), 17, 18), append(slices.Clone(a.D), 19, 20)}
	fraction.N = api.Int{Neg: a.N.Neg, Mag: rooms[0][:len(a.N.Mag)]}
	fraction.D = rooms[1][:len(a.D)]
	return fraction, rooms
}

// lists are all limbs of fractions, list by list, with the room behind them.
func lists(l []api.Rat) [][]uint32 {
	var out [][]uint32
	for _, a := range l {
		out = append(out, a.N.Mag[:cap(a.N.Mag)], a.D[:cap(a.D)])
	}
	return out
}

func copied(l [][]uint32) [][]uint32 {
	out := make([][]uint32, len(l))
	for i := range l {
		out[i] = slices.Clone(l[i])
	}
	return out
}

func TestArgumentsStayAndAnswersAreNew(t *testing.T) {
	for _, a := range few() {
		for _, b := range few() {
			argA, roomA := roomy(a)
			argB, roomB := roomy(b)
			rooms := [][]uint32{roomA[0], roomA[1], roomB[0], roomB[1]}
			kept := copied(rooms)
			outs := lists(answers(argA, argB))
			rat.Right(argA)
			rat.Whole(argA)
			rat.Cmp(argA, argB)
			all := append(slices.Clone(rooms), outs...)
			for i := range rooms {
				if !slices.Equal(rooms[i], kept[i]) {
					t.Fatalf("an argument of %v and %v is changed", a, b)
				}
			}
			// To write into one answer's list changes no other list, neither an argument's nor an answer's.
			for i := range outs {
				before := copied(all)
				for j := range outs[i] {
					outs[i][j] ^= 0x5a5a5a5a
				}
				for j := range all {
					if j != i+len(rooms) && !slices.Equal(all[j], before[j]) {
						t.Fatalf("lists %d and %d of %v and %v share memory", i, j-len(rooms), a, b)
					}
				}
			}
		}
	}
}

func TestOneAsBothArguments(t *testing.T) {
	for _, a := range edges() {
		apart := api.Rat{N: api.Int{Neg: a.N.Neg, Mag: slices.Clone(a.N.Mag)}, D: slices.Clone(a.D)}
		must := answers(apart, a)
		for i, out := range answers(a, a) {
			wantSame(t, "of one fraction", out, must[i])
		}
		wantSame(t, "the fraction", a, apart)
	}
}

// P1 of the whole: long fractions come to an end, and soon enough.
func TestLongFractions(t *testing.T) {
	sum := rat.From(0)
	for i := int64(1); i <= 600; i++ {
		next, _ := rat.Div(rat.From(1), rat.From(i))
		sum = rat.Add(sum, next)
	}
	for i := int64(1); i <= 600; i++ {
		next, _ := rat.Div(rat.From(-1), rat.From(i))
		sum = rat.Add(sum, next)
	}
	wantSame(t, "a long sum and the same below 0", sum, rat.From(0))
	s := source(6)
	a, b := s.longFraction(400), s.longFraction(300)
	q, e := rat.Div(rat.Mul(a, b), b)
	wantSame(t, "a long product", q, right(a))
	if e != api.OK {
		t.Error(e)
	}
	wantSame(t, "read back", parsed(t, rat.Text(a)), right(a))
}

func (s *source) longFraction(limbs int) api.Rat {
	n, d := make([]uint32, limbs), make([]uint32, limbs)
	for i := range n {
		n[i], d[i] = s.next()|1, s.next()|1
	}
	return api.Rat{N: api.Int{Neg: true, Mag: n}, D: d}
}
