package reckon

import (
	"crypto/sha256"
	"strings"
	"testing"
)

// fipsStart and fipsRounds are the constants as FIPS 180-4 prints them.
var fipsStart = state{
	0x6a09e667, 0xbb67ae85, 0x3c6ef372, 0xa54ff53a, 0x510e527f, 0x9b05688c, 0x1f83d9ab, 0x5be0cd19,
}

var fipsRounds = [64]uint32{
	0x428a2f98, 0x71374491, 0xb5c0fbcf, 0xe9b5dba5, 0x3956c25b, 0x59f111f1, 0x923f82a4, 0xab1c5ed5,
	0xd807aa98, 0x12835b01, 0x243185be, 0x550c7dc3, 0x72be5d74, 0x80deb1fe, 0x9bdc06a7, 0xc19bf174,
	0xe49b69c1, 0xefbe4786, 0x0fc19dc6, 0x240ca1cc, 0x2de92c6f, 0x4a7484aa, 0x5cb0a9dc, 0x76f988da,
	0x983e5152, 0xa831c66d, 0xb00327c8, 0xbf597fc7, 0xc6e00bf3, 0xd5a79147, 0x06ca6351, 0x14292967,
	0x27b70a85, 0x2e1b2138, 0x4d2c6dfc, 0x53380d13, 0x650a7354, 0x766a0abb, 0x81c2c92e, 0x92722c85,
	0xa2bfe8a1, 0xa81a664b, 0xc24b8b70, 0xc76c51a3, 0xd192e819, 0xd6990624, 0xf40e3585, 0x106aa070,
	0x19a4c116, 0x1e376c08, 0x2748774c, 0x34b0bcb5, 0x391c0cb3, 0x4ed8aa4a, 0x5b9cca4f, 0x682e6ff3,
	0x748f82ee, 0x78a5636f, 0x84c87814, 0x8cc70208, 0x90befffa, 0xa4506ceb, 0xbef9a3f7, 0xc67178f2,
}

func TestConstants(t *testing.T) {
	if hashConstants.start != fipsStart {
		t.Errorf("P2: the hash begins in %x", hashConstants.start)
	}
	if hashConstants.rounds != fipsRounds {
		t.Errorf("P2: the words of the rounds are %x", hashConstants.rounds)
	}
}

// some answers bytes that hang on a number.
func some(n, seed int) string {
	b := make([]byte, n)
	x := uint32(seed)*2654435761 + 12345
	for i := range b {
		x = x*1664525 + 1013904223
		b[i] = byte(x >> 24)
	}
	return string(b)
}

func TestHashInParts(t *testing.T) {
	text := some(200, 1)
	want := sha256.Sum256([]byte(text))
	for i := range len(text) + 1 {
		for j := i; j <= len(text); j += 7 {
			if Begin().Add(text[:i]).Add(text[i:j]).Add(text[j:]).Sum() != want {
				t.Fatalf("P2: the hash of a text cut at %d and %d", i, j)
			}
		}
	}
}

func TestCopiesGoTheirOwnWay(t *testing.T) {
	begun := Begin().Add(some(100, 2))
	kept := begun
	one, other := begun.Add("a").end(), begun.Add("b").end()
	if begun != kept {
		t.Error("P1: what goes on from a hash has changed it")
	}
	if one == other || one != begun.Add("a").end() {
		t.Error("P1: two that go on from one hash have met")
	}
}

func TestPrepareKey(t *testing.T) {
	for _, n := range []int{0, 1, 63} {
		if prepare(some(n, n)) != prepare(some(n, n)+"\x00") {
			t.Errorf("P2: a key of %d bytes has no zeros behind it", n)
		}
	}
	for _, n := range []int{65, 128, 1000} {
		sum := Hash(some(n, n))
		if prepare(some(n, n)).inner.state != prepare(string(sum[:])).inner.state {
			t.Errorf("P2: a key of %d bytes is not hashed", n)
		}
	}
	if sum := Hash(some(64, 64)); prepare(some(64, 64)) == prepare(string(sum[:])) {
		t.Error("P2: a key of 64 bytes is hashed")
	}
}

func TestExpandHoldsItsBounds(t *testing.T) {
	if s := Expand("k", "i", -1); s != "" {
		t.Errorf("P2: %d bytes below none", len(s))
	}
	if s := Expand("k", "i", MaxExpand+1); s != Expand("k", "i", MaxExpand) || len(s) != 8160 {
		t.Errorf("P2: %d bytes above the most", len(s))
	}
}

func TestNumbersInBytes(t *testing.T) {
	for _, c := range []struct{ got, want string }{
		{One(0), "\x00"},
		{One(255), "\xff"},
		{Two(1), "\x00\x01"},
		{Two(0x1234), "\x12\x34"},
		{Eight(1), strings.Repeat("\x00", 7) + "\x01"},
		{Eight(0x0102030405060708), "\x01\x02\x03\x04\x05\x06\x07\x08"},
	} {
		if c.got != c.want {
			t.Errorf("P2: %x; want %x", c.got, c.want)
		}
	}
}

func TestIsMac(t *testing.T) {
	sum := Mac("key", "data")
	if !IsMac("key", "data", sum) || IsMac("kez", "data", sum) || IsMac("key", "date", sum) {
		t.Error("P10: what is a Mac of what")
	}
	for i := range sum {
		turned := sum
		turned[i] ^= 1
		if IsMac("key", "data", turned) {
			t.Errorf("P10: byte %d is not looked at", i)
		}
	}
}

func TestDerive(t *testing.T) {
	for _, c := range []struct {
		label, context string
		n              int
		info           string
	}{
		{"iv", "", 12, "\x00\x0c\x02iv\x00"},
		{"exp", some(32, 1), 32, "\x00\x20\x03exp\x20" + some(32, 1)},
		{"", "c", 300, "\x01\x2c\x00\x01c"},
	} {
		if got := Derive("secret", c.label, c.context, c.n); got != Expand("secret", c.info, c.n) || len(got) != c.n {
			t.Errorf("P10: Derive of %q: %d bytes", c.label, len(got))
		}
	}
}
