package reckon

import "math/bits"

// number is a whole number below 2 to the 256, its lowest word first.
type number [4]uint64

// wide has room for the product of two numbers.
type wide [8]uint64

// readNumber reads at most 32 bytes, the lowest first.
func readNumber(text string) number {
	var n number
	for i := range min(len(text), 32) {
		n[i/8] |= uint64(text[i]) << (i % 8 * 8)
	}
	return n
}

// bytes are those of the number, the lowest first.
func (n number) bytes() [32]byte {
	var out [32]byte
	for i := range out {
		out[i] = byte(n[i/8] >> (i % 8 * 8))
	}
	return out
}

func (n number) bit(i int) uint64 {
	return n[i/64] >> (i % 64) & 1
}

// plus is the sum without what does not fit, and that.
func (n number) plus(m number) (number, uint64) {
	var carry uint64
	for i := range n {
		n[i], carry = bits.Add64(n[i], m[i], carry)
	}
	return n, carry
}

// minus is the difference, and 1 if m is the greater one.
func (n number) minus(m number) (number, uint64) {
	var borrow uint64
	for i := range n {
		n[i], borrow = bits.Sub64(n[i], m[i], borrow)
	}
	return n, borrow
}

func (n number) times(m number) wide {
	var out wide
	for i, x := range n {
		var carry uint64
		for j, y := range m {
			out[i+j], carry = multiplyAdd(x, y, out[i+j], carry)
		}
		out[i+len(m)] = carry
	}
	return out
}

// multiplyAdd is x y + a + b, its low word and its high one; two words always hold it.
func multiplyAdd(x, y, a, b uint64) (low, high uint64) {
	high, low = bits.Mul64(x, y)
	low, carry := bits.Add64(low, a, 0)
	high += carry
	low, carry = bits.Add64(low, b, 0)
	return low, high + carry
}

// cut parts w at a bit: what is below it, and what is above it, brought down.
func (w wide) cut(bit int) (below, above wide) {
	words, left := bit/64, bit%64
	copy(below[:], w[:words])
	below[words] = w[words] & (1<<left - 1)
	for i := words; i < len(w); i++ {
		above[i-words] = w[i] >> left
		if i+1 < len(w) {
			above[i-words] |= w[i+1] << (64 - left)
		}
	}
	return below, above
}

// timesPlus is w factor + more, which the caller knows to fit.
func (w wide) timesPlus(factor uint64, more wide) wide {
	var carry uint64
	for i := range w {
		w[i], carry = multiplyAdd(w[i], factor, more[i], carry)
	}
	return w
}
