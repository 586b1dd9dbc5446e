// Package reckon has what parley reckons with: the hash and what is built on it, the cipher with its tag, and the curve. The sizes of keys and points are in the types; it knows no errors.
package reckon

import "math/bits"

// hashConstants are the state in which the hash begins and a word for every round: the first 32 bits behind the point of the square roots of the first 8 primes, and of the cube roots of the first 64.
var hashConstants struct {
	start  state
	rounds [64]uint32
}

func init() {
	for i, prime := range firstPrimes() {
		if i < len(hashConstants.start) {
			hashConstants.start[i] = rootBits(prime, squareReaches)
		}
		hashConstants.rounds[i] = rootBits(prime, cubeReaches)
	}
}

func firstPrimes() [64]uint64 {
	var found [64]uint64
	count := 0
	for n := uint64(2); count < len(found); n++ {
		if dividedByNone(n, found[:count]) {
			found[count] = n
			count++
		}
	}
	return found
}

func dividedByNone(n uint64, primes []uint64) bool {
	for _, p := range primes {
		if n%p == 0 {
			return false
		}
	}
	return true
}

// rootBits looks for the root times 2 to the 32, bit by bit from above. The roots are all below 8, so 35 bits hold it; the low 32 of them stand behind the point.
func rootBits(prime uint64, reaches func(root, prime uint64) bool) uint32 {
	var root uint64
	for bit := 34; bit >= 0; bit-- {
		if next := root | 1<<bit; !reaches(next, prime) {
			root = next
		}
	}
	return uint32(root)
}

// squareReaches tells if root squared is at least prime times 2 to the 64. (They are never the same: a prime is no square.)
func squareReaches(root, prime uint64) bool {
	high, _ := bits.Mul64(root, root)
	return high >= prime
}

// cubeReaches tells if root cubed is at least prime times 2 to the 96. root has at most 35 bits, so the cube has at most 105.
func cubeReaches(root, prime uint64) bool {
	squareHigh, squareLow := bits.Mul64(root, root)
	high, _ := bits.Mul64(squareLow, root)
	return (high+squareHigh*root)>>32 >= prime
}
