package parley

import (
	"encoding/hex"
	"strings"
	"testing"
)

func unhex(t *testing.T, text string) string {
	t.Helper()
	b, err := hex.DecodeString(strings.ReplaceAll(text, " ", ""))
	if err != nil {
		t.Fatal(err)
	}
	return string(b)
}

// some answers bytes that hang on a number.
func some(n, seed int) string {
	b := make([]byte, n)
	x := uint32(seed)*2654435761 + 12345
	for i := range b {
		x = x*1664525 + 1013904223
		b[i] = byte(x >> 24)
	}
	return string(b)
}

// refused holds a call's answer against an error with nothing beside it.
func refused(t *testing.T, what, got string, e, want Errno) {
	t.Helper()
	if got != "" || e != want {
		t.Errorf("%s: %d bytes, error %d; want none, error %d", what, len(got), e, want)
	}
}
