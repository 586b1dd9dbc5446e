package keys

import (
	"crypto/hmac"
	"crypto/sha256"
	"encoding/binary"
	"strings"
	"testing"

	"parley/reckon"
)

func macOf(key, data string) string {
	h := hmac.New(sha256.New, []byte(key))
	h.Write([]byte(data))
	return string(h.Sum(nil))
}

// deriveOf is the document's Derive, for at most 32 bytes.
func deriveOf(secret, label, context string, n int) string {
	info := []byte{0, byte(n), byte(len(label))}
	return macOf(secret, string(info)+label+string([]byte{byte(len(context))})+context+"\x01")[:n]
}

func secretOf(text string) Secret { return Secret(sha256.Sum256([]byte(text))) }

func TestAgree(t *testing.T) {
	zeros := strings.Repeat("\x00", 32)
	share := secretOf("share")
	for _, c := range []struct{ key, data string }{{"", zeros}, {"k", "k"}, {zeros, zeros}, {"a key of 32 bytes, which is most.", "a key of 32 bytes, which is most."}} {
		mid, master := Agree([]byte(c.key), share)
		wantMid := macOf(deriveOf(macOf(zeros, c.data), "derived", "", 32), string(share[:]))
		wantMaster := macOf(deriveOf(wantMid, "derived", "", 32), zeros)
		if string(mid[:]) != wantMid || string(master[:]) != wantMaster {
			t.Errorf("P10: with the key %q: %x, %x", c.key, mid, master)
		}
	}
	key := []byte("a key")
	if Agree(key, share); string(key) != "a key" {
		t.Error("P1: the key has changed")
	}
}

func TestDerive(t *testing.T) {
	s := secretOf("s")
	for _, context := range []string{"", "context", strings.Repeat("c", 32)} {
		if made := s.Derive("label", context); string(made[:]) != deriveOf(string(s[:]), "label", context, 32) {
			t.Errorf("P10: Derive in %q: %x", context, made)
		}
	}
}

func TestKeysOfRecords(t *testing.T) {
	for _, count := range []uint64{0, 1, 255, 256, 0x0102030405060708, 1<<64 - 1} {
		l := Lay(secretOf("s"))
		l.count = count
		key, nonce := l.keys()
		want := []byte(deriveOf(string(l.secret[:]), "iv", "", 12))
		binary.BigEndian.PutUint64(want[4:], binary.BigEndian.Uint64(want[4:])^count)
		if string(key[:]) != deriveOf(string(l.secret[:]), "key", "", 32) || string(nonce[:]) != string(want) {
			t.Errorf("P8: of record %d: %x, %x", count, key, nonce)
		}
	}
}

func TestLinesCount(t *testing.T) {
	out, in := Lay(secretOf("s")), Lay(secretOf("s"))
	for i := range 3 {
		sealed := out.Seal("head", "data")
		if _, opened := in.Open("heat", sealed); opened {
			t.Error("P8: another head is taken")
		}
		if data, opened := in.Open("head", sealed); !opened || data != "data" {
			t.Errorf("P8: record %d cannot be opened", i)
		}
		if _, opened := in.Open("head", sealed); opened {
			t.Errorf("P8: record %d is opened twice", i)
		}
	}
	if out.count != 3 || in.count != 3 {
		t.Errorf("P8: %d sealed, %d opened", out.count, in.count)
	}
	old := out.secret
	out.Renew()
	if out.count != 0 || string(out.secret[:]) != deriveOf(string(old[:]), "upd", "", 32) || !out.Laid() {
		t.Errorf("P11: a renewed line: %+v", out)
	}
}

func TestProofs(t *testing.T) {
	l := Lay(secretOf("s"))
	finish := l.Prove("said")
	if finish != macOf(deriveOf(string(l.secret[:]), "finished", "", 32), "said") {
		t.Errorf("P10: the finish %x", finish)
	}
	right := [32]byte([]byte(finish))
	if !l.Proves("said", right) || l.Proves("sand", right) || l.Proves("said", reckon.Hash("said")) {
		t.Error("P10: which finish is the one")
	}
}

func TestClear(t *testing.T) {
	l := Lay(secretOf("s"))
	l.Seal("", "")
	if !l.Laid() {
		t.Error("P7: a line that was laid has no secret")
	}
	if l.Clear(); l != (Line{}) || l.Laid() {
		t.Errorf("P10: of a cleared line is left %+v", l)
	}
	s := secretOf("s")
	if s.Clear(); s != (Secret{}) {
		t.Errorf("P10: of a cleared secret is left %x", s)
	}
}
