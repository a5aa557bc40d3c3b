package nat_test

import (
	"slices"
	"testing"

	"litmus/api"
	"litmus/nat"
)

// P1.4

func triples() [][3]row {
	var out [][3]row
	edges := edgeRows()
	for i, a := range edges {
		for j, b := range edges {
			out = append(out, [3]row{a, b, edges[(i+7*j)%len(edges)]})
		}
	}
	s := source(2)
	for range 1000 {
		out = append(out, [3]row{s.row(8), s.row(8), s.row(8)})
	}
	return append(out, [3]row{s.longRow(120), s.longRow(90), s.longRow(75)})
}

func TestSumsAndProducts(t *testing.T) {
	for _, x := range triples() {
		a, b, c := x[0], x[1], x[2]
		wantRow(t, "a + b turned round", nat.Add(a, b), nat.Add(b, a))
		wantRow(t, "a b turned round", nat.Mul(a, b), nat.Mul(b, a))
		wantRow(t, "sums grouped", nat.Add(nat.Add(a, b), c), nat.Add(a, nat.Add(b, c)))
		wantRow(t, "products grouped", nat.Mul(nat.Mul(a, b), c), nat.Mul(a, nat.Mul(b, c)))
		wantRow(t, "a product spread", nat.Mul(a, nat.Add(b, c)), nat.Add(nat.Mul(a, b), nat.Mul(a, c)))
		back, ok := nat.Sub(nat.Add(a, b), b)
		wantRow(t, "Sub undoes Add", back, nat.Trim(a))
		if !ok {
			t.Errorf("Sub of %x and %x: false", nat.Add(a, b), b)
		}
	}
}

func TestOnePairOfDiv(t *testing.T) {
	for _, x := range triples() {
		a, b, c := x[0], x[1], x[2]
		q, r, e := nat.Div(a, b)
		if e != api.OK {
			continue
		}
		wantRow(t, "q b + r", nat.Add(nat.Mul(q, b), r), nat.Trim(a))
		if nat.Cmp(r, b) >= 0 {
			t.Errorf("Div of %x and %x leaves %x", a, b, r)
		}
		// Whatever pair a number is made of is the one that Div tells.
		again, left, _ := nat.Div(nat.Add(nat.Mul(c, b), r), b)
		wantRow(t, "how often", again, nat.Trim(c))
		wantRow(t, "what is left", left, r)
	}
}

func TestDigitsAreReadBack(t *testing.T) {
	for _, x := range triples() {
		for _, a := range x {
			back, ok := nat.Parse(nat.Text(a))
			wantRow(t, "read back", back, nat.Trim(a))
			if !ok {
				t.Errorf("Parse of %s: false", nat.Text(a))
			}
		}
	}
}

// What is taken as digits is what Text would write: so no number has two rows of digits.
func TestOneRowOfDigits(t *testing.T) {
	s := source(4)
	for range 20000 {
		text := make([]byte, s.next()%24)
		for i := range text {
			text[i] = "00123456789"[s.next()%11]
		}
		if n, ok := nat.Parse(string(text)); ok && nat.Text(n) != string(text) {
			t.Errorf("%s and %s are one number", text, nat.Text(n))
		} else if plain := len(text) == 1 || len(text) > 1 && text[0] != '0'; ok != plain {
			t.Errorf("Parse of %q: %v", text, ok)
		}
	}
}

// What holds of rows, whatever the call.

// answers are those of all calls that answer rows.
func answers(a, b row) []row {
	sub, _ := nat.Sub(a, b)
	bus, _ := nat.Sub(b, a)
	q, r, _ := nat.Div(a, b)
	parsed, _ := nat.Parse(nat.Text(a))
	return []row{nat.Trim(a), nat.Add(a, b), sub, bus, nat.Mul(a, b), q, r, nat.Gcd(a, b), parsed}
}

func someRows() []row {
	s := source(5)
	return append(edgeRows(), s.longRow(45), padded(s.longRow(100), 3))
}

func TestAnswersAreTrimmed(t *testing.T) {
	for _, a := range someRows() {
		for _, b := range someRows() {
			for i, out := range answers(a, b) {
				if n := len(out); n > 0 && out[n-1] == 0 {
					t.Errorf("answer %d of %x and %x: %x", i, a, b, out)
				}
			}
		}
	}
}

func TestNoughtsAheadChangeNothing(t *testing.T) {
	for _, a := range someRows() {
		for _, b := range someRows() {
			plain := answers(nat.Trim(a), nat.Trim(b))
			for i, out := range answers(padded(a, 2), padded(b, 50)) {
				wantRow(t, "with noughts", out, plain[i])
			}
			if nat.Cmp(padded(a, 50), b) != nat.Cmp(a, padded(b, 2)) || nat.Text(padded(a, 3)) != nat.Text(a) {
				t.Errorf("Cmp or Text of %x and %x with noughts", a, b)
			}
		}
	}
}

// spoil writes over all the room of a row, and behind it as far as an append would write in place.
func spoil(a row) {
	for i := range a[:cap(a)] {
		a[:cap(a)][i] ^= 0x5a5a5a5a
	}
}

func TestArgumentsStayAndAnswersAreNew(t *testing.T) {
	for _, a := range someRows() {
		for _, b := range someRows() {
			roomA, roomB := padded(a, 2), padded(b, 2)
			argA, argB := roomA[:len(a)], roomB[:len(b)]
			keptA, keptB := slices.Clone(roomA), slices.Clone(roomB)
			outs := answers(argA, argB)
			wantRow(t, "the first argument", roomA, keptA)
			wantRow(t, "the second argument", roomB, keptB)
			for i := range outs {
				kept := make([]row, len(outs))
				for j := range outs {
					kept[j] = slices.Clone(outs[j])
				}
				spoil(outs[i])
				wantRow(t, "the first argument, an answer spoilt", roomA, keptA)
				wantRow(t, "the second argument, an answer spoilt", roomB, keptB)
				for j := range outs {
					if j != i {
						wantRow(t, "another answer", outs[j], kept[j])
					}
				}
			}
		}
	}
}

func TestOneRowAsBothArguments(t *testing.T) {
	for _, a := range someRows() {
		kept := slices.Clone(a)
		apart := answers(kept, slices.Clone(a))
		for i, out := range answers(a, a) {
			wantRow(t, "of one row", out, apart[i])
		}
		wantRow(t, "the row", a, kept)
	}
}

// P1 of the whole: calls with many limbs end, and soon enough.
func TestManyLimbs(t *testing.T) {
	s := source(6)
	a, b := s.longRow(6000), s.longRow(2500)
	q, r, e := nat.Div(a, b)
	if e != api.OK || nat.Cmp(r, b) >= 0 {
		t.Error("Div of many limbs")
	}
	wantRow(t, "q b + r", nat.Add(nat.Mul(q, b), r), a)
	back, ok := nat.Parse(nat.Text(a))
	wantRow(t, "read back", back, a)
	both := nat.Gcd(nat.Mul(b, row{6}), nat.Mul(b, row{35}))
	wantRow(t, "Gcd", both, b)
	if !ok {
		t.Error("Parse of many digits: false")
	}
}
