package nat

import "slices"

// Digits are worked on nine at a time: so many fit into one limb.
const (
	chunkDigits = 9
	chunkBase   = 1_000_000_000
)

// Text is a's digits.
func Text(a []uint32) string {
	take := digitTaker(a)
	var digits []byte
	for digit, more := take(); more; digit, more = take() {
		digits = append(digits, digit)
	}
	if len(digits) == 0 {
		return "0"
	}
	slices.Reverse(digits)
	return string(digits)
}

// Parse is the number of these digits.
func Parse(s string) ([]uint32, bool) {
	if !isDigits(s) {
		return nil, false
	}
	var out []uint32
	for len(s) > 0 {
		// The first chunk takes the odd digits, so that all others are whole.
		n := (len(s)-1)%chunkDigits + 1
		carry := scale(out, chunkBase, chunk(s[:n]))
		if carry != 0 {
			out = append(out, carry)
		}
		s = s[n:]
	}
	return out, true
}

// digitTaker answers what takes a's digits, the lowest first, till it says that there are no more; of 0 it takes none.
func digitTaker(a []uint32) func() (byte, bool) {
	rest := Trim(a)
	low, count := uint32(0), 0
	return func() (byte, bool) {
		if count == 0 {
			if len(rest) == 0 {
				return 0, false
			}
			low, count = divideBy(rest, chunkBase), chunkDigits
			rest = short(rest)
		}
		digit := '0' + byte(low%10)
		low, count = low/10, count-1
		if low == 0 && len(rest) == 0 {
			// Above here there are only noughts.
			count = 0
		}
		return digit, true
	}
}

func isDigits(s string) bool {
	if s == "" || s[0] == '0' && len(s) > 1 {
		return false
	}
	for i := range len(s) {
		if s[i] < '0' || s[i] > '9' {
			return false
		}
	}
	return true
}

// chunk is the number of at most nine digits.
func chunk(digits string) uint32 {
	n := uint32(0)
	for i := range len(digits) {
		n = n*10 + uint32(digits[i]-'0')
	}
	return n
}
