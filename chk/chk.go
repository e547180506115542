// Package chk has sums, differences and products that are told only where they are whole numbers of 64 bits: where one would wrap round, the answer is 0 and false.
package chk

import "math/bits"

// Add tells a + b; false, if it is above 2^64 - 1.
func Add(a, b uint64) (uint64, bool) {
	sum, carry := bits.Add64(a, b, 0)
	if carry != 0 {
		return 0, false
	}
	return sum, true
}

// Sub tells a - b; false, if it is below 0.
func Sub(a, b uint64) (uint64, bool) {
	if a < b {
		return 0, false
	}
	return a - b, true
}

// Mul tells a * b; false, if it is above 2^64 - 1.
func Mul(a, b uint64) (uint64, bool) {
	high, low := bits.Mul64(a, b)
	if high != 0 {
		return 0, false
	}
	return low, true
}

// Sum tells the sum of all of l, 0 of none; false, if it is above 2^64 - 1.
func Sum(l ...uint64) (uint64, bool) {
	total := uint64(0)
	for _, n := range l {
		sum, ok := Add(total, n)
		// None of l is below 0: what is too much now can't come down again.
		if !ok {
			return 0, false
		}
		total = sum
	}
	return total, true
}
