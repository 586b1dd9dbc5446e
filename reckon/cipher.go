package reckon

import "math/bits"

const cipherWords = "expand 32-byte k"

// cipher is what a block of the cipher's stream is made from: words that never change, the key, the count of the block, the nonce.
type cipher [16]uint32

func newCipher(key [32]byte, nonce [12]byte) cipher {
	var c cipher
	copy(c[0:4], lowWords(cipherWords))
	copy(c[4:12], lowWords(string(key[:])))
	copy(c[13:16], lowWords(string(nonce[:])))
	return c
}

// lowWords reads words of four bytes, the lowest first.
func lowWords(text string) []uint32 {
	words := make([]uint32, len(text)/4)
	for i := range words {
		for j := range 4 {
			words[i] |= uint32(text[i*4+j]) << (j * 8)
		}
	}
	return words
}

// block is the stream's block of that count.
func (c cipher) block(count uint32) [blockSize]byte {
	c[12] = count
	turned := c
	for range 10 {
		turned = turned.turnTwice()
	}
	var out [blockSize]byte
	for i := range out {
		out[i] = byte((turned[i/4] + c[i/4]) >> (i % 4 * 8))
	}
	return out
}

// turnTwice is a round down the columns and one along the diagonals.
func (c cipher) turnTwice() cipher {
	c[0], c[4], c[8], c[12] = quarter(c[0], c[4], c[8], c[12])
	c[1], c[5], c[9], c[13] = quarter(c[1], c[5], c[9], c[13])
	c[2], c[6], c[10], c[14] = quarter(c[2], c[6], c[10], c[14])
	c[3], c[7], c[11], c[15] = quarter(c[3], c[7], c[11], c[15])
	c[0], c[5], c[10], c[15] = quarter(c[0], c[5], c[10], c[15])
	c[1], c[6], c[11], c[12] = quarter(c[1], c[6], c[11], c[12])
	c[2], c[7], c[8], c[13] = quarter(c[2], c[7], c[8], c[13])
	c[3], c[4], c[9], c[14] = quarter(c[3], c[4], c[9], c[14])
	return c
}

func quarter(a, b, c, d uint32) (uint32, uint32, uint32, uint32) {
	a += b
	d = bits.RotateLeft32(d^a, 16)
	c += d
	b = bits.RotateLeft32(b^c, 12)
	a += b
	d = bits.RotateLeft32(d^a, 8)
	c += d
	b = bits.RotateLeft32(b^c, 7)
	return a, b, c, d
}

// turn seals or opens: block 0 is for the tag, so the data begin at block 1.
func (c cipher) turn(data string) string {
	out := []byte(data)
	for at, count := 0, uint32(1); at < len(out); at, count = at+blockSize, count+1 {
		stream := c.block(count)
		for i := range min(blockSize, len(out)-at) {
			out[at+i] ^= stream[i]
		}
	}
	return string(out)
}
