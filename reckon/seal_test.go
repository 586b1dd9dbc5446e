package reckon

import (
	"encoding/hex"
	"strings"
	"testing"
)

func unhex(t *testing.T, text string) string {
	t.Helper()
	b, err := hex.DecodeString(strings.ReplaceAll(text, " ", ""))
	if err != nil {
		t.Fatal(err)
	}
	return string(b)
}

func TestCipherBlock(t *testing.T) {
	var counting, zeros [32]byte
	for i := range counting {
		counting[i] = byte(i)
	}
	for _, c := range []struct {
		key   [32]byte
		nonce string
		count uint32
		want  string
	}{
		{counting, "000000090000004a00000000", 1, "10f1e7e4d13b5915500fdd1fa32071c4c7d1f4c733c068030422aa9ac3d46c4ed2826446079faa0914c2d705d98b02a2b5129cd1de164eb9cbd083e8a2503c4e"},
		{zeros, "000000000000000000000000", 0, "76b8e0ada0f13d90405d6ae55386bd28bdd219b8a08ded1aa836efcc8b770dc7da41597c5157488d7724e03fb8d84a376a43b8f41518a11cc387b669b2ee6586"},
		{zeros, "000000000000000000000000", 1, "9f07e7be5551387a98ba977c732d080dcb0f29a048e3656912c6533e32ee7aed29b721769ce64e43d57133b074d839d531ed1f28510afb45ace10a1f4b794d6f"},
	} { // RFC 8439, 2.3.2 and A.1
		block := newCipher(c.key, [12]byte([]byte(unhex(t, c.nonce)))).block(c.count)
		if string(block[:]) != unhex(t, c.want) {
			t.Errorf("P2: block %d: %x", c.count, block)
		}
	}
}

func TestTagger(t *testing.T) {
	full := strings.Repeat("ff", 16)
	zeros := strings.Repeat("00", 15)
	split := "01000000000000000400000000000000"
	pieces := "e33594d7505e43b90000000000000000 3394d7505e4379cd0100000000000000 00" + zeros
	for i, c := range []struct{ factor, last, data, want string }{
		{"02" + zeros, "00", full, "03" + zeros},
		{"02" + zeros, full, "02" + zeros, "03" + zeros},
		{"01" + zeros, "00", full + "f0" + full[2:] + "11" + zeros, "05" + zeros},
		{"01" + zeros, "00", full + "fb" + strings.Repeat("fe", 15) + strings.Repeat("01", 16), "00" + zeros},
		{"02" + zeros, "00", "fd" + full[2:], "fa" + full[2:]},
		{split, "00", pieces + "01" + zeros, "14000000000000005500000000000000"},
		{split, "00", pieces, "13" + zeros},
	} { // RFC 8439, A.3, 5 to 11: sums at the edges of the prime
		tagged := newTagger(unhex(t, c.factor)).add(unhex(t, c.data))
		sum, _ := tagged.sum.plus(readNumber(unhex(t, c.last)))
		tag := sum.bytes()
		if string(tag[:16]) != unhex(t, c.want) {
			t.Errorf("P2: tag %d: %x", i, tag[:16])
		}
	}
}

func TestTaggerDropsBits(t *testing.T) {
	factor := newTagger(unhex(t, strings.Repeat("ff", 16))).factor.bytes()
	if string(factor[:16]) != unhex(t, "ffffff0ffcffff0ffcffff0ffcffff0f") {
		t.Errorf("P2: the factor is %x", factor)
	}
}
