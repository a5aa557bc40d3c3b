// Package nat is layer 1: see shared/doc/01-nat.md.
package nat

import (
	"cmp"
	"iter"
	"math/bits"
	"slices"
)

const limbBits = 32

// Trim is a, without noughts at its high end.
func Trim(a []uint32) []uint32 { return slices.Clone(short(a)) }

// From is n.
func From(n uint64) []uint32 {
	return short([]uint32{uint32(n), uint32(n >> limbBits)})
}

// Small is a, if it is below 2^64.
func Small(a []uint32) (uint64, bool) {
	if len(short(a)) > 2 {
		return 0, false
	}
	return uint64(limb(a, 0)) | uint64(limb(a, 1))<<limbBits, true
}

// Cmp is how a is to b.
func Cmp(a, b []uint32) int {
	order := 0
	for x, y := range pairs(a, b) {
		// A higher limb outweighs all those below it, so the last difference tells.
		if x != y {
			order = cmp.Compare(x, y)
		}
	}
	return order
}

// Add is the sum.
func Add(a, b []uint32) []uint32 { return sum(a, b) }

// Sub is a less b, if b is not more.
func Sub(a, b []uint32) ([]uint32, bool) {
	out := make([]uint32, 0, max(len(a), len(b)))
	borrow := uint32(0)
	for x, y := range pairs(a, b) {
		x, borrow = bits.Sub32(x, y, borrow)
		out = append(out, x)
	}
	if borrow != 0 {
		return nil, false
	}
	return short(out), true
}

// short is a itself, cut: what it answers must not be handed out where a came from a caller.
func short(a []uint32) []uint32 {
	n := len(a)
	for n > 0 && a[n-1] == 0 {
		n--
	}
	return a[:n]
}

// limb lets a row go on with noughts, so that rows of any lengths fit together.
func limb(a []uint32, i int) uint32 {
	if i < len(a) {
		return a[i]
	}
	return 0
}

// pairs has the limbs of both side by side, the lowest first, as carries need them.
func pairs(a, b []uint32) iter.Seq2[uint32, uint32] {
	return func(yield func(uint32, uint32) bool) {
		for i := range max(len(a), len(b)) {
			if !yield(limb(a, i), limb(b, i)) {
				return
			}
		}
	}
}

// sum adds by columns: one walk and one new row, however many rows there are.
func sum(rows ...[]uint32) []uint32 {
	longest := 0
	for _, row := range rows {
		longest = max(longest, len(row))
	}
	out := make([]uint32, 0, longest+1)
	column := uint64(0)
	for i := range longest {
		for _, row := range rows {
			column += uint64(limb(row, i))
		}
		out = append(out, uint32(column))
		column >>= limbBits
	}
	// What is carried is less than the count of rows, so one limb holds it.
	return short(append(out, uint32(column)))
}
