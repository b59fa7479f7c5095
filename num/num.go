// Package num is layer 1: sums that fit. See shared/doc/01-num.md.
package num

import (
	"math"
	"math/bits"
)

// Add is the sum of a and b, and true, if it fits.
func Add(a, b int) (int, bool) {
	sum := a + b
	if carried(a, b, sum) {
		return 0, false
	}
	return sum, true
}

// Sub is the difference of a and b, and true, if it fits.
func Sub(a, b int) (int, bool) {
	// b itself may have no negative that fits; its complement always does, and has that negative's sign for the carry.
	difference := a - b
	if carried(a, ^b, difference) {
		return 0, false
	}
	return difference, true
}

// carried tells whether the sum of a and b wrapped round, with or without a carry that came in: it can only if their signs are alike.
func carried(a, b, sum int) bool {
	switch {
	case a < 0 && b < 0:
		// What wraps round from below 0 is 0 or more: its complement is as wrong as a sum that wraps from above.
		sum = ^sum
		fallthrough
	case a >= 0 && b >= 0:
		return sum < 0
	}
	return false
}

// Mul is the product of a and b, and true, if it fits.
func Mul(a, b int) (int, bool) {
	most := uint64(math.MaxInt64)
	if (a < 0) != (b < 0) {
		most++ // below 0 one more fits than above
	}
	high, low := bits.Mul64(magnitude(a), magnitude(b))
	if high != 0 || low > most {
		return 0, false
	}
	return a * b, true
}

// magnitude is n without its sign: unsigned, because that of the least int is no int.
func magnitude(n int) uint64 {
	if n < 0 {
		return -uint64(n)
	}
	return uint64(n)
}

// Ceil is the least number that, times b, is a or more, and true; 0 and false, if a is below 0 or b below 1.
func Ceil(a, b int) (int, bool) {
	if a < 0 || b < 1 {
		return 0, false
	}
	times := a / b
	if a%b > 0 {
		times++ // fits: b is 2 or more where something is left
	}
	return times, true
}

// Power tells whether n is a power of two.
func Power(n int) bool {
	return n > 0 && n&(n-1) == 0
}

// Log is the greatest k with 2^k not above n; -1, if n is below 1.
func Log(n int) int {
	if n < 1 {
		return -1
	}
	return bits.Len64(uint64(n)) - 1
}

// Align is the least multiple of by that is n or more, and true; 0 and false, if n is below 0, by is no power of two, or it does not fit.
func Align(n, by int) (int, bool) {
	if n < 0 || !Power(by) {
		return 0, false
	}
	// If this sum does not fit, neither does the multiple: the first that does not fit, 2^63, is itself one of by.
	reach, fits := Add(n, by-1)
	if !fits {
		return 0, false
	}
	return reach &^ (by - 1), true
}
