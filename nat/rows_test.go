package nat_test

import (
	"math/big"
	"slices"
)

type row = []uint32

const top = 0xffffffff

// edgeLimbs are those at whose side carries, borrows and guesses of quotients turn.
var edgeLimbs = row{0, 0, 1, 2, 3, 9, 10, 0x7fff, 0x8000, 999_999_999, 1_000_000_000, 0x7fffffff, 0x80000000, 0x80000001, top - 1, top, top}

// edgeRows are numbers at the ends of limbs, and rows that are not trimmed.
func edgeRows() []row {
	return []row{
		nil, {}, {0}, {0, 0, 0}, {1}, {1, 0}, {2}, {3}, {9}, {10}, {10, 0, 0}, {0x80000000}, {top - 1}, {top}, {top, 0},
		{0, 1}, {1, 1}, {0, 1, 0}, {top, top}, {top, top, 0}, {0, 0x80000000}, {top - 1, top},
		{0, 0, 1}, {1, 0, 1}, {0, 0, 1, 0, 0}, {top, top, top}, {0, 0, 0x80000000}, {1, 0, 0x80000000},
		{0, 0, 0x8000, 0x7fff}, {1, 0, 0x8000}, {3, 0, 0x80000000}, {1, 0, 0x20000000},
		{0, top - 1, 0x80000000}, {top, 0x80000000}, {0, 0, 0, 1}, {top, 0, top, 0, top},
	}
}

// source hands out the same numbers at each run.
type source uint64

func (s *source) next() uint32 {
	*s = *s*6364136223846793005 + 1442695040888963407
	return uint32(*s >> 33)
}

func (s *source) limb() uint32 {
	if s.next()%2 == 0 {
		return edgeLimbs[s.next()%uint32(len(edgeLimbs))]
	}
	return s.next()<<1 ^ s.next()
}

func (s *source) row(most int) row {
	out := make(row, s.next()%uint32(most+1))
	for i := range out {
		out[i] = s.limb()
	}
	return out
}

// longRow is n limbs, the highest not 0.
func (s *source) longRow(n int) row {
	out := make(row, n)
	for i := range out {
		out[i] = s.limb()
	}
	out[n-1] |= 1
	return out
}

// want is the number that a row says, by the library's arithmetic.
func want(a row) *big.Int {
	n := new(big.Int)
	for _, limb := range slices.Backward(a) {
		n.Lsh(n, 32)
		n.Or(n, big.NewInt(int64(limb)))
	}
	return n
}

// rowOf is the trimmed row of a number.
func rowOf(n *big.Int) row {
	n = new(big.Int).Set(n)
	var out row
	for mask := big.NewInt(top); n.Sign() != 0; n.Rsh(n, 32) {
		out = append(out, uint32(new(big.Int).And(n, mask).Uint64()))
	}
	return out
}

func padded(a row, zeros int) row {
	return append(slices.Clone(a), make(row, zeros)...)
}

// pairsOfRows are edges with each other, and rows of many lengths.
func pairsOfRows() [][2]row {
	var out [][2]row
	for _, a := range edgeRows() {
		for _, b := range edgeRows() {
			out = append(out, [2]row{a, b})
		}
	}
	s := source(1)
	for range 4000 {
		out = append(out, [2]row{s.row(9), s.row(6)})
	}
	for _, n := range [][2]int{{39, 39}, {40, 39}, {40, 40}, {41, 40}, {80, 40}, {81, 41}, {79, 79}, {100, 57}, {161, 160}, {300, 45}, {333, 334}, {500, 1}} {
		out = append(out, [2]row{s.longRow(n[0]), s.longRow(n[1])})
	}
	full := slices.Repeat(row{top}, 130)
	return append(out, [2]row{full, full}, [2]row{full, full[:64]}, [2]row{append(make(row, 120), 1), full[:90]})
}
