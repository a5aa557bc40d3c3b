package big_test

import (
	"slices"
	"testing"

	"litmus/api"
	"litmus/big"
)

// P2.5

func TestSumsAndProducts(t *testing.T) {
	for _, x := range triples() {
		a, b, c := x[0], x[1], x[2]
		wantSame(t, "a + b turned round", big.Add(a, b), big.Add(b, a))
		wantSame(t, "a b turned round", big.Mul(a, b), big.Mul(b, a))
		wantSame(t, "three turned round", big.Add(a, b, c), big.Add(c, a, b))
		wantSame(t, "three factors turned round", big.Mul(a, b, c), big.Mul(c, a, b))
		wantSame(t, "sums grouped", big.Add(big.Add(a, b), c), big.Add(a, big.Add(b, c)))
		wantSame(t, "sums of three grouped", big.Add(a, b, c), big.Add(a, big.Add(b, c)))
		wantSame(t, "products grouped", big.Mul(big.Mul(a, b), c), big.Mul(a, big.Mul(b, c)))
		wantSame(t, "products of three grouped", big.Mul(a, b, c), big.Mul(a, big.Mul(b, c)))
		wantSame(t, "a product spread", big.Mul(a, big.Add(b, c)), big.Add(big.Mul(a, b), big.Mul(a, c)))
		wantSame(t, "what is taken away", big.Add(big.Sub(a, b), b), right(a))
		wantSame(t, "what is put to it", big.Sub(big.Add(a, b), b), right(a))
		wantSame(t, "Sub by Neg", big.Sub(a, b), big.Add(a, big.Neg(b)))
		wantSame(t, "Neg twice", big.Neg(big.Neg(a)), right(a))
	}
}

func TestDivAndModMakeUp(t *testing.T) {
	for _, x := range triples() {
		a, b, c := x[0], x[1], x[2]
		q, e := big.Div(a, b)
		r, f := big.Mod(a, b)
		if (e != api.OK) != (big.Sign(b) == 0) || e != f {
			t.Errorf("of %v and %v: %v %v", a, b, e, f)
		}
		if e != api.OK {
			continue
		}
		wantSame(t, "b Div and Mod", big.Add(big.Mul(b, q), r), right(a))
		if big.Sign(r) != 0 && (big.Sign(r) != big.Sign(b) || big.Cmp(big.Mul(r, r), big.Mul(b, b)) >= 0) {
			t.Errorf("Mod of %v and %v: %v", a, b, r)
		}
		// Whatever is made of b, so many times, and of what may be left is told apart again.
		made := big.Add(big.Mul(b, c), r)
		q, _ = big.Div(made, b)
		left, _ := big.Mod(made, b)
		wantSame(t, "how often", q, right(c))
		wantSame(t, "what is left", left, r)
	}
}

func TestTextsAreReadBack(t *testing.T) {
	for _, p := range pairs() {
		wantSame(t, "read back", parsed(t, big.Text(p[0])), right(p[0]))
		if big.Text(p[0]) != big.Text(right(p[0])) {
			t.Errorf("Text of %v: %s", p[0], big.Text(p[0]))
		}
	}
}

// What is taken as a text is what Text would write: so no number has two.
func TestOneTextOfEach(t *testing.T) {
	s := source(4)
	for range 30000 {
		text := make([]byte, s.next()%14)
		for i := range text {
			text[i] = "-001234567"[s.next()%10]
		}
		if n, ok := big.Parse(string(text)); ok && big.Text(n) != string(text) {
			t.Errorf("%s and %s are one number", text, big.Text(n))
		}
	}
}

// What holds of numbers, whatever the call.

// answers are those of all calls that answer numbers.
func answers(a, b api.Int) []api.Int {
	q, _ := big.Div(a, b)
	r, _ := big.Mod(a, b)
	back, _ := big.Parse(big.Text(a))
	return []api.Int{
		big.Of(a.Neg, a.Mag), big.Neg(a), big.Sub(a, b), q, r, back,
		big.Add(), big.Add(a), big.Add(a, b), big.Add(b, a, b), big.Add(a, b, a, b, a),
		big.Mul(), big.Mul(a), big.Mul(a, b), big.Mul(b, a, b), big.Mul(a, b, a, b, a),
	}
}

func TestAnswersAreRight(t *testing.T) {
	for _, a := range edges() {
		for _, b := range edges() {
			for i, out := range answers(a, b) {
				if !written(out) || !big.Right(out) {
					t.Errorf("answer %d of %v and %v: %v", i, a, b, out)
				}
			}
		}
	}
}

func TestOthersCountAsTheRightOnes(t *testing.T) {
	for _, a := range edges() {
		for _, b := range edges() {
			plain := answers(right(a), right(b))
			for i, out := range answers(a, b) {
				wantSame(t, "of numbers that are not right", out, plain[i])
			}
			if big.Cmp(a, b) != big.Cmp(right(a), right(b)) {
				t.Errorf("Cmp of %v and %v", a, b)
			}
		}
	}
}

// roomy is a with room behind its limbs, into which an append would write.
func roomy(a api.Int) (number api.Int, room []uint32) {
	room = append(slices.Clone(a.Mag), 17, 18)
	return api.Int{Neg: a.Neg, Mag: room[:len(a.Mag)]}, room
}

func spoil(a api.Int) {
	all := a.Mag[:cap(a.Mag)]
	for i := range all {
		all[i] ^= 0x5a5a5a5a
	}
}

func TestArgumentsStayAndAnswersAreNew(t *testing.T) {
	for _, a := range edges() {
		for _, b := range edges() {
			argA, roomA := roomy(a)
			argB, roomB := roomy(b)
			keptA, keptB := slices.Clone(roomA), slices.Clone(roomB)
			outs := answers(argA, argB)
			for i := range outs {
				kept := make([]api.Int, len(outs))
				for j := range outs {
					kept[j] = api.Int{Neg: outs[j].Neg, Mag: slices.Clone(outs[j].Mag)}
				}
				spoil(outs[i])
				if !slices.Equal(roomA, keptA) || !slices.Equal(roomB, keptB) {
					t.Fatalf("answer %d of %v and %v is in an argument's room", i, a, b)
				}
				for j := range outs {
					if j != i {
						wantSame(t, "another answer", outs[j], kept[j])
					}
				}
			}
		}
	}
}

func TestListsStay(t *testing.T) {
	for n := range 9 {
		room := make([]api.Int, n+1)
		for i := range room {
			room[i] = api.Int{Neg: i%2 == 0, Mag: []uint32{uint32(i), 0}}
		}
		l := room[:n]
		big.Add(l...)
		big.Mul(l...)
		for i := range room {
			wantSame(t, "a number of a list", room[i], api.Int{Neg: i%2 == 0, Mag: []uint32{uint32(i), 0}})
		}
	}
}

// P1 of the whole: a long row, and long numbers, come to an end, and soon enough.
func TestLongRows(t *testing.T) {
	l := make([]api.Int, 20000)
	for i := range l {
		l[i] = big.From(int64(i) - 10000)
	}
	wantInt(t, "Add of a long row", big.Add(l...), -10000)
	for i := range l {
		l[i] = big.From(-2)
	}
	power := big.Mul(l...)
	half := big.Mul(l[:10000]...)
	wantSame(t, "Mul of a long row", power, big.Mul(half, half))
	if n := len(power.Mag); n != 20000/32+1 || power.Neg || power.Mag[n-1] != 1 {
		t.Error("Mul of a long row:", n)
	}
	wantSame(t, "read back", parsed(t, big.Text(big.Neg(power))), big.Neg(power))
}
