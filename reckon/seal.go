package reckon

// TagSize is how many bytes a sealed text is longer than its data.
const TagSize = 16

// tagger sums up pieces of 16 bytes, each time multiplied by factor.
type tagger struct {
	sum, factor number
}

// Seal is ChaCha20-Poly1305.
func Seal(key [32]byte, nonce [12]byte, head, data string) string {
	c := newCipher(key, nonce)
	turned := c.turn(data)
	return turned + c.tag(head, turned)
}

// Open answers the data that were sealed; false, if text is not what Seal answers of any.
func Open(key [32]byte, nonce [12]byte, head, text string) (string, bool) {
	size := len(text) - TagSize
	if size < 0 {
		return "", false
	}
	c := newCipher(key, nonce)
	if c.tag(head, text[:size]) != text[size:] {
		return "", false
	}
	return c.turn(text[:size]), true
}

func (c cipher) tag(head, turned string) string {
	once := c.block(0)
	t := newTagger(string(once[:16])).add(head).add(turned).addLengths(len(head), len(turned))
	sum, _ := t.sum.plus(readNumber(string(once[16:32])))
	tag := sum.bytes()
	return string(tag[:TagSize])
}

// newTagger drops the bits of the factor that RFC 8439 has dropped.
func newTagger(factor string) tagger {
	n := readNumber(factor)
	n[0] &= 0x0ffffffc0fffffff
	n[1] &= 0x0ffffffc0ffffffc
	return tagger{factor: n}
}

// add takes text with zeros behind it till its pieces are full.
func (t tagger) add(text string) tagger {
	for at := 0; at < len(text); at += 16 {
		t = t.addPiece(readNumber(text[at:min(at+16, len(text))]))
	}
	return t
}

func (t tagger) addLengths(head, turned int) tagger {
	return t.addPiece(number{uint64(head), uint64(turned)})
}

// addPiece marks the end of the piece by a bit above its 16 bytes.
func (t tagger) addPiece(piece number) tagger {
	piece[2] = 1
	t.sum = tagPrime.multiply(tagPrime.add(t.sum, piece), t.factor)
	return t
}
