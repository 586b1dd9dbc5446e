package parley

import (
	"crypto/ecdh"
	"crypto/hkdf"
	"crypto/hmac"
	"crypto/sha256"
	"strings"
	"testing"
)

func TestHash(t *testing.T) {
	for _, n := range append(upTo(260), 1000, 4096, 1<<20) {
		want := sha256.Sum256([]byte(some(n, n)))
		if got := Hash(some(n, n)); got != string(want[:]) {
			t.Errorf("P2: Hash of %d bytes: %x", n, got)
		}
	}
	if got := Hash("abc"); got != unhex(t, "ba7816bf8f01cfea414140de5dae2223b00361a396177a9cb410ff61f20015ad") { // FIPS 180-4
		t.Errorf("P2: Hash of abc: %x", got)
	}
}

func upTo(n int) []int {
	list := make([]int, n)
	for i := range list {
		list[i] = i
	}
	return list
}

func TestMac(t *testing.T) {
	for _, keySize := range append(upTo(140), 1000) {
		for _, n := range []int{0, 1, 55, 56, 63, 64, 65, 200} {
			key, data := some(keySize, n), some(n, keySize)
			m := hmac.New(sha256.New, []byte(key))
			m.Write([]byte(data))
			if got := Mac(key, data); got != string(m.Sum(nil)) {
				t.Errorf("P2: Mac of a key of %d bytes and %d bytes: %x", keySize, n, got)
			}
		}
	}
	want := unhex(t, "5bdcc146bf60754e6a042426089575c75a003f089d2739839dec58b964ec3843") // RFC 4231, 4.3
	if got := Mac("Jefe", "what do ya want for nothing?"); got != want {
		t.Errorf("P2: Mac: %x", got)
	}
}

func TestExpand(t *testing.T) {
	for _, keySize := range []int{0, 1, 32, 64, 65, 100} {
		for _, infoSize := range []int{0, 1, 10, 64, 300} {
			key, info := some(keySize, infoSize), some(infoSize, keySize)
			whole, err := hkdf.Expand(sha256.New, []byte(key), info, 8160)
			if err != nil {
				t.Fatal(err)
			}
			for _, n := range []int{0, 1, 31, 32, 33, 63, 64, 65, 8127, 8128, 8129, 8159, 8160} {
				if got, e := Expand(key, info, n); got != string(whole[:n]) || e != OK {
					t.Errorf("P2: Expand to %d bytes of a key of %d, info of %d: error %d", n, keySize, infoSize, e)
				}
			}
		}
	}
	whole, _ := Expand("key", "info", 8160)
	for n := 0; n <= 8160; n += 17 {
		if got, e := Expand("key", "info", n); got != whole[:n] || e != OK {
			t.Fatalf("P2: Expand to %d bytes: %d bytes, error %d", n, len(got), e)
		}
	}
}

func TestExpandRefuses(t *testing.T) {
	for _, n := range []int{-1 << 63, -8160, -1, 8161, 8192, 1<<32 + 1, 1<<63 - 1} {
		got, e := Expand("key", "info", n)
		refused(t, "P2: Expand outside its bounds", got, e, ErrArg)
	}
}

// TestSealAgainstAnother holds many sealed texts, by their hash, against what Node's crypto makes of the same.
func TestSealAgainstAnother(t *testing.T) {
	var all strings.Builder
	for n := range 400 {
		sealed, e := Seal(some(32, n), some(12, n+1000), some(n%50, n+2000), some(n, n+3000))
		if e != OK || len(sealed) != n+16 {
			t.Errorf("P2: Seal of %d bytes: %d, error %d", n, len(sealed), e)
		}
		all.WriteString(sealed)
	}
	if Hash(all.String()) != unhex(t, "a0341d88adec713d18bcbf78954ad73e6d4396ad5600fd17f3793be8c603bb52") {
		t.Error("P2: Seal makes other texts than another program")
	}
}

// TestOpenKnown is RFC 8439, A.5.
func TestOpenKnown(t *testing.T) {
	key := unhex(t, "1c9240a5eb55d38af333888604f6b5f0473917c1402b80099dca5cbc207075c0")
	nonce, head := unhex(t, "000000000102030405060708"), unhex(t, "f33388860000000000004e91")
	text := unhex(t, "64a0861575861af460f062c79be643bd5e805cfd345cf389f108670ac76c8cb2"+
		"4c6cfc18755d43eea09ee94e382d26b0bdb7b73c321b0100d4f03b7f355894cf"+
		"332f830e710b97ce98c8a84abd0b948114ad176e008d33bd60f982b1ff37c855"+
		"9797a06ef4f0ef61c186324e2b3506383606907b6a7c02b0f9f6157b53c867e4"+
		"b9166c767b804d46a59b5216cde7a4e99040c5a40433225ee282a1b0a06c523e"+
		"af4534d7f83fa1155b0047718cbc546a0d072b04b3564eea1b422273f548271a"+
		"0bb2316053fa76991955ebd63159434ecebb4e466dae5a1073a6727627097a10"+
		"49e617d91d361094fa68f0ff77987130305beaba2eda04df997b714d6c6f2c29"+
		"a6ad5cb4022b02709beead9d67890cbb22392336fea1851f38")
	want := "Internet-Drafts are draft documents valid for a maximum of six months and may be updated, replaced, or obsoleted by other documents at any time. It is inappropriate to use Internet-Drafts as reference material or to cite them other than as /\u201cwork in progress./\u201d"
	if got, e := Open(key, nonce, head, text); got != want || e != OK {
		t.Errorf("P2: Open: %q, error %d", got, e)
	}
}

func TestOpenWhatIsSealed(t *testing.T) {
	for n := range 200 {
		key, nonce, head, data := some(32, n), some(12, n), some(n%35, n), some(n, n+1)
		sealed, _ := Seal(key, nonce, head, data)
		if got, e := Open(key, nonce, head, sealed); got != data || e != OK {
			t.Errorf("P2: Open of %d sealed bytes: error %d", n, e)
		}
		for what, c := range map[string][4]string{
			"key":         {some(32, n+1), nonce, head, sealed},
			"nonce":       {key, some(12, n+1), head, sealed},
			"longer head": {key, nonce, head + "\x00", sealed},
			"longer text": {key, nonce, head, sealed + "\x00"},
			"cut text":    {key, nonce, head, sealed[:len(sealed)-1]},
			"later text":  {key, nonce, head, sealed[1:]},
		} {
			got, e := Open(c[0], c[1], c[2], c[3])
			refused(t, "P2: Open with another "+what, got, e, ErrOpen)
		}
	}
}

// TestOpenKnowsHeadFromText moves a byte from the head to the text and back, where zeros fill both up.
func TestOpenKnowsHeadFromText(t *testing.T) {
	key, nonce := some(32, 1), some(12, 1)
	sealed, _ := Seal(key, nonce, "head", "")
	got, e := Open(key, nonce, "", "head"+sealed)
	refused(t, "P2: Open of a head as text", got, e, ErrOpen)
	sealed, _ = Seal(key, nonce, "head\x00", "data")
	got, e = Open(key, nonce, "head", sealed)
	refused(t, "P2: Open with a head without its zero", got, e, ErrOpen)
}

func turned(text string, at int, by byte) string {
	b := []byte(text)
	b[at] ^= by
	return string(b)
}

func TestOpenWithAByteTurned(t *testing.T) {
	key, nonce, head := some(32, 1), some(12, 1), some(20, 1)
	for _, n := range []int{0, 1, 16, 70} {
		sealed, _ := Seal(key, nonce, head, some(n, 2))
		for at := range len(sealed) {
			for bit := range 8 {
				got, e := Open(key, nonce, head, turned(sealed, at, 1<<bit))
				refused(t, "P2: Open with a byte turned", got, e, ErrOpen)
			}
		}
		for at := range len(head) {
			got, e := Open(key, nonce, turned(head, at, 0x80), sealed)
			refused(t, "P2: Open with a byte of the head turned", got, e, ErrOpen)
		}
	}
}

func TestOpenTooShort(t *testing.T) {
	sealed, _ := Seal(some(32, 1), some(12, 1), "", "")
	if len(sealed) != 16 {
		t.Errorf("P2: Seal of nothing: %d bytes", len(sealed))
	}
	for n := range 16 {
		got, e := Open(some(32, 1), some(12, 1), "", sealed[:n])
		refused(t, "P2: Open of less than a tag", got, e, ErrOpen)
	}
	if got, e := Open(some(32, 1), some(12, 1), "", sealed); got != "" || e != OK {
		t.Errorf("P2: Open of a tag alone: %q, error %d", got, e)
	}
}

func TestSealAndOpenRefuse(t *testing.T) {
	sealed, _ := Seal(some(32, 1), some(12, 1), "", "data")
	for _, c := range [][2]int{{0, 12}, {31, 12}, {33, 12}, {64, 12}, {32, 0}, {32, 11}, {32, 13}, {32, 24}, {12, 32}, {31, 13}} {
		got, e := Seal(some(c[0], 1), some(c[1], 1), "", "data")
		refused(t, "P2: Seal with a key or nonce of another size", got, e, ErrArg)
		got, e = Open(some(c[0], 1), some(c[1], 1), "", sealed)
		refused(t, "P2: Open with a key or nonce of another size", got, e, ErrArg)
	}
}

// known asks the library for the share.
func known(t *testing.T, secret, point string) string {
	t.Helper()
	x, err := ecdh.X25519().NewPrivateKey([]byte(secret))
	if err != nil {
		t.Fatal(err)
	}
	y, err := ecdh.X25519().NewPublicKey([]byte(point))
	if err != nil {
		t.Fatal(err)
	}
	share, err := x.ECDH(y)
	if err != nil {
		t.Fatal(err)
	}
	return string(share)
}

func TestShare(t *testing.T) {
	points := []string{}
	for n := range 40 {
		points = append(points, some(32, n+500))
	}
	for above := 2; above < 19; above++ { // above the prime: what is left counts
		points = append(points, string([]byte{byte(0xed + above)})+strings.Repeat("\xff", 30)+"\x7f")
	}
	for n, point := range points {
		secret := some(32, n)
		for _, p := range []string{point, turned(point, 31, 0x80)} {
			if got, e := Share(secret, p); got != known(t, secret, p) || e != OK {
				t.Errorf("P2: Share of %x and %x: %x, error %d", secret, p, got, e)
			}
		}
	}
}

func TestShareOfTwoEnds(t *testing.T) {
	base := "\x09" + strings.Repeat("\x00", 31)
	secret := unhex(t, "5dab087e624a8a4b79e17f8b83800ee66f3bb1292618b6fd1c2f8b27ff88e0eb") // RFC 7748, 6.1
	if got, e := Share(secret, base); got != unhex(t, "de9edb7d7b7dc1b4d35b61c2ece435373f8343c85b78674dadfc7e146f882b4f") || e != OK {
		t.Errorf("P2: the share of an end: %x, error %d", got, e)
	}
	from := unhex(t, "8520f0098930a754748b7ddcb43ef75a0dbf3a0d26381af4eba4a98eaa9b4e6a")
	if got, e := Share(secret, from); got != unhex(t, "4a5d9d5ba4ce2de1728e3bf480350f25e07e21c947d19e3376f09b3c1e161742") || e != OK {
		t.Errorf("P2: what two ends share: %x, error %d", got, e)
	}
	for n := range 10 {
		one, _ := Share(some(32, n), base)
		other, _ := Share(some(32, n+100), base)
		x, e := Share(some(32, n), other)
		y, f := Share(some(32, n+100), one)
		if x != y || len(x) != 32 || e != OK || f != OK {
			t.Errorf("P2: two ends share %x and %x, errors %d and %d", x, y, e, f)
		}
	}
}

func TestSharesOfZeros(t *testing.T) {
	top := strings.Repeat("ff", 30)
	for _, low := range []string{
		strings.Repeat("00", 32),
		"01" + strings.Repeat("00", 31),
		"e0eb7a7c3b41b8ae1656e3faf19fc46ada098deb9c32b1fd866205165f49b800",
		"5f9c95bca3508c24b1d0b1559c83ef5b04445cc4581c8e86d8224eddd09f1157",
		"ec" + top + "7f",
		"ed" + top + "7f",
		"ee" + top + "7f",
	} {
		point := unhex(t, low)
		for seed := range 5 {
			got, e := Share(some(32, seed), point)
			refused(t, "P2: Share with "+low, got, e, ErrShare)
			got, e = Share(some(32, seed), turned(point, 31, 0x80))
			refused(t, "P2: Share with "+low+" and the highest bit", got, e, ErrShare)
		}
	}
}

func TestShareRefuses(t *testing.T) {
	for _, c := range [][2]int{{0, 32}, {31, 32}, {33, 32}, {64, 32}, {32, 0}, {32, 31}, {32, 33}, {32, 64}, {31, 33}, {0, 0}} {
		got, e := Share(some(c[0], 1), some(c[1], 1))
		refused(t, "P2: Share of other sizes", got, e, ErrArg)
	}
}
