package reckon

// point is x/z, the one coordinate of a point of the curve that is reckoned with.
type point struct {
	x, z number
}

// Share is X25519; false, if it comes out as zeros.
func Share(secret, from [32]byte) ([32]byte, bool) {
	times := readSecret(secret)
	base := readPoint(from)
	near, far := point{x: number{1}}, point{x: base, z: number{1}}
	for i := 254; i >= 0; i-- {
		if times.bit(i) == 1 {
			far, near = climb(base, far, near)
		} else {
			near, far = climb(base, near, far)
		}
	}
	share := curvePrime.multiply(near.x, curvePrime.inverse(near.z))
	return share.bytes(), share != number{}
}

// readSecret sets the bits that RFC 7748 asks for: a multiple of 8, from 2 to the 254 up to 2 to the 255.
func readSecret(secret [32]byte) number {
	n := readNumber(string(secret[:]))
	n[0] &^= 7
	n[3] = n[3]&^(1<<63) | 1<<62
	return n
}

// readPoint drops the highest bit; a number above the prime stands for what is left of it.
func readPoint(from [32]byte) number {
	n := readNumber(string(from[:]))
	n[3] &^= 1 << 63
	return curvePrime.lower(n)
}

// climb answers a doubled, and the sum of a and b, whose difference is base.
func climb(base number, a, b point) (doubled, sum point) {
	p := curvePrime
	plus, minus := p.add(a.x, a.z), p.subtract(a.x, a.z)
	plusSquare, minusSquare := p.square(plus), p.square(minus)
	between := p.subtract(plusSquare, minusSquare)
	doubled.x = p.multiply(plusSquare, minusSquare)
	doubled.z = p.multiply(between, p.add(plusSquare, p.multiply(number{121665}, between)))

	one := p.multiply(p.subtract(b.x, b.z), plus)
	other := p.multiply(p.add(b.x, b.z), minus)
	sum.x = p.square(p.add(one, other))
	sum.z = p.multiply(base, p.square(p.subtract(one, other)))
	return doubled, sum
}
