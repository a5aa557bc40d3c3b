package nat

import "slices"

// fewLimbs is where three half products begin to cost less than four.
const fewLimbs = 40

// Mul is the product.
func Mul(a, b []uint32) []uint32 { return product(short(a), short(b)) }

// product is Karatsuba's for long rows, so that numbers of many limbs stay within reach.
func product(a, b []uint32) []uint32 {
	if len(a) < len(b) {
		a, b = b, a
	}
	if len(b) < fewLimbs {
		return longProduct(a, b)
	}
	half := (len(a) + 1) / 2
	a0, a1 := short(a[:half]), a[half:]
	if len(b) <= half {
		return sum(product(a0, b), raised(product(a1, b), half))
	}
	b0, b1 := short(b[:half]), b[half:]
	low, high := product(a0, b0), product(a1, b1)
	// (a0 + a1)(b0 + b1) has low and high in it, so this never falls below 0.
	cross, _ := Sub(product(sum(a0, a1), sum(b0, b1)), sum(low, high))
	return sum(low, raised(cross, half), raised(high, 2*half))
}

func longProduct(a, b []uint32) []uint32 {
	out := make([]uint32, len(a)+len(b))
	for i, times := range b {
		out[i+len(a)] = addTimes(out[i:i+len(a)], a, times)
	}
	return short(out)
}

// raised is a, times 2^32 to the power of by.
func raised(a []uint32, by int) []uint32 {
	return slices.Concat(make([]uint32, by), a)
}

// addTimes adds a, so many times, to the row to, which is as long, in its own room; it answers what is carried out of it.
func addTimes(to, a []uint32, times uint32) uint32 {
	carry := uint64(0)
	for i, x := range a {
		// (2^32 - 1)^2 and twice 2^32 - 1 are just 2^64 - 1: nothing is lost.
		carry += uint64(x)*uint64(times) + uint64(to[i])
		to[i] = uint32(carry)
		carry >>= limbBits
	}
	return uint32(carry)
}

// scale makes a, in its own room, so many times a and plus; it answers what is carried out of it.
func scale(a []uint32, times, plus uint32) uint32 {
	carry := uint64(plus)
	for i, x := range a {
		carry += uint64(x) * uint64(times)
		a[i] = uint32(carry)
		carry >>= limbBits
	}
	return uint32(carry)
}
