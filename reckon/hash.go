package reckon

import (
	"math/bits"
	"strings"
)

const (
	blockSize = 64 // bytes that the hash takes at once
	sumSize   = 32 // bytes that it answers
)

// state is what the hash keeps between blocks. It is an array, so that whoever goes on from it goes on from a copy.
type state [8]uint32

// Running is a hash that has taken length bytes; those that fill no block yet stand first in rest. It is a value: who adds to it has another one.
type Running struct {
	state  state
	rest   [blockSize]byte
	length uint64
}

// Hash is SHA-256.
func Hash(data string) [sumSize]byte {
	return Begin().Add(data).Sum()
}

// Begin answers a hash that has taken nothing yet.
func Begin() Running {
	return Running{state: hashConstants.start}
}

// Add answers the hash that has taken data, too.
func (r Running) Add(data string) Running {
	for len(data) > 0 {
		n := copy(r.rest[r.length%blockSize:], data)
		data = data[n:]
		r.length += uint64(n)
		if r.length%blockSize == 0 {
			r.state = r.state.mix(r.rest)
		}
	}
	return r
}

// Sum is the hash of all that was taken.
func (r Running) Sum() [sumSize]byte { return r.end().sum() }

func (r Running) end() state {
	zeros := int(119-r.length%blockSize) % blockSize // so that the eight bytes of the length end a block
	bitLength := r.length * 8
	return r.Add("\x80" + strings.Repeat("\x00", zeros) + Eight(bitLength)).state
}

func (s state) mix(block [blockSize]byte) state {
	w := spread(block)
	a, b, c, d, e, f, g, h := s[0], s[1], s[2], s[3], s[4], s[5], s[6], s[7]
	for i := range w {
		turnedE := bits.RotateLeft32(e, -6) ^ bits.RotateLeft32(e, -11) ^ bits.RotateLeft32(e, -25)
		chosen := e&f ^ ^e&g
		first := h + turnedE + chosen + hashConstants.rounds[i] + w[i]
		turnedA := bits.RotateLeft32(a, -2) ^ bits.RotateLeft32(a, -13) ^ bits.RotateLeft32(a, -22)
		most := a&b ^ a&c ^ b&c
		a, b, c, d, e, f, g, h = first+turnedA+most, a, b, c, d+first, e, f, g
	}
	return state{s[0] + a, s[1] + b, s[2] + c, s[3] + d, s[4] + e, s[5] + f, s[6] + g, s[7] + h}
}

// spread makes of a block a word for every round.
func spread(block [blockSize]byte) [64]uint32 {
	var w [64]uint32
	for i, b := range block {
		w[i/4] = w[i/4]<<8 | uint32(b)
	}
	for i := 16; i < len(w); i++ {
		x, y := w[i-15], w[i-2]
		x = bits.RotateLeft32(x, -7) ^ bits.RotateLeft32(x, -18) ^ x>>3
		y = bits.RotateLeft32(y, -17) ^ bits.RotateLeft32(y, -19) ^ y>>10
		w[i] = w[i-16] + x + w[i-7] + y
	}
	return w
}

func (s state) sum() [sumSize]byte {
	var out [sumSize]byte
	for i := range out {
		out[i] = byte(s[i/4] >> (24 - i%4*8))
	}
	return out
}

// readState answers the state whose sum is given.
func readState(sum [sumSize]byte) state {
	var s state
	for i, b := range sum {
		s[i/4] = s[i/4]<<8 | uint32(b)
	}
	return s
}
