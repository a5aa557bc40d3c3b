package nat

import (
	"math/bits"
	"slices"

	"litmus/api"
)

const maxLimb = 1<<limbBits - 1

// Div is how often b goes into a, and what is left.
func Div(a, b []uint32) (q, r []uint32, e api.Errno) {
	a, b = short(a), short(b)
	switch {
	case len(b) == 0:
		return nil, nil, api.ErrZero
	case len(a) < len(b):
		return nil, slices.Clone(a), api.OK
	case len(b) == 1:
		q = slices.Clone(a)
		left := divideBy(q, b[0])
		return short(q), From(uint64(left)), api.OK
	}
	q, r = longDivide(a, b)
	return q, r, api.OK
}

// Gcd is the greatest number by which both can be divided.
func Gcd(a, b []uint32) []uint32 {
	a, b = Trim(a), Trim(b)
	for len(b) > 0 {
		x, fits := Small(a)
		y, also := Small(b)
		if fits && also {
			return From(smallGcd(x, y))
		}
		_, left, _ := Div(a, b)
		a, b = b, left
	}
	return a
}

func smallGcd(x, y uint64) uint64 {
	for y != 0 {
		x, y = y, x%y
	}
	return x
}

// divideBy divides a, in its own room, by a number that is not 0; it answers what is left.
func divideBy(a []uint32, by uint32) uint32 {
	left := uint64(0)
	for i := len(a) - 1; i >= 0; i-- {
		left = left<<limbBits | uint64(a[i])
		a[i] = uint32(left / uint64(by))
		left %= uint64(by)
	}
	return uint32(left)
}

// longDivide is Knuth's algorithm D; b has two limbs or more, a has as many or more, and both are trimmed.
func longDivide(a, b []uint32) (q, r []uint32) {
	// With b's highest bit set a guessed limb is at most two too great.
	twos := uint32(1) << bits.LeadingZeros32(b[len(b)-1])
	rest, by := slices.Clone(a), slices.Clone(b)
	carry := scale(rest, twos, 0)
	rest = append(rest, carry)
	scale(by, twos, 0)
	q = make([]uint32, len(a)-len(b)+1)
	for i := len(q) - 1; i >= 0; i-- {
		q[i] = divideLimb(rest[i:i+len(b)+1], by)
	}
	divideBy(rest, twos)
	return short(q), short(rest)
}

// divideLimb takes by out of rest, which is one limb longer, as often as it goes; that is less than 2^32 times.
func divideLimb(rest, by []uint32) uint32 {
	n := len(by)
	times := guessTimes(rest[n-2:], by[n-2:])
	if takeTimes(rest, by, times) {
		// The guess saw only the highest limbs, and was one too great.
		carry := addTimes(rest[:n], by, 1)
		rest[n] += carry
		times--
	}
	return times
}

// guessTimes is told by the three highest limbs of what is left, and the two highest of what it is divided by.
func guessTimes(rest, by []uint32) uint32 {
	top := uint64(rest[2])<<limbBits | uint64(rest[1])
	guess, left := top/uint64(by[1]), top%uint64(by[1])
	for left <= maxLimb && (guess > maxLimb || guess*uint64(by[0]) > left<<limbBits|uint64(rest[0])) {
		guess--
		left += uint64(by[1])
	}
	return uint32(guess)
}

// takeTimes takes by, so many times, out of rest, in its own room; true: that was too often, and rest is short of 0 now.
func takeTimes(rest, by []uint32, times uint32) bool {
	carry, borrow := uint64(0), uint32(0)
	for i, x := range by {
		carry += uint64(x) * uint64(times)
		rest[i], borrow = bits.Sub32(rest[i], uint32(carry), borrow)
		carry >>= limbBits
	}
	n := len(by)
	rest[n], borrow = bits.Sub32(rest[n], uint32(carry), borrow)
	return borrow != 0
}
