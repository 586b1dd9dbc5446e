package parley

import "parley/reckon"

const (
	keySize   = 32
	nonceSize = 12
)

// Hash is SHA-256 (P2).
func Hash(data string) string {
	sum := reckon.Hash(data)
	return string(sum[:])
}

// Mac is HMAC (P2).
func Mac(key string, data string) string {
	sum := reckon.Mac(key, data)
	return string(sum[:])
}

// Expand makes bytes of a key (P2).
func Expand(key string, info string, n int) (string, Errno) {
	if n < 0 || n > reckon.MaxExpand {
		return "", ErrArg
	}
	return reckon.Expand(key, info, n), OK
}

// Seal seals data (P2).
func Seal(key string, nonce string, head string, data string) (string, Errno) {
	if len(key) != keySize || len(nonce) != nonceSize {
		return "", ErrArg
	}
	return reckon.Seal(keyBytes(key), nonceBytes(nonce), head, data), OK
}

// Open opens what was sealed (P2).
func Open(key string, nonce string, head string, text string) (string, Errno) {
	if len(key) != keySize || len(nonce) != nonceSize {
		return "", ErrArg
	}
	data, opened := reckon.Open(keyBytes(key), nonceBytes(nonce), head, text)
	if !opened {
		return "", ErrOpen
	}
	return data, OK
}

// Share is X25519 (P2).
func Share(secret string, point string) (string, Errno) {
	if len(secret) != keySize || len(point) != keySize {
		return "", ErrArg
	}
	share, had := reckon.Share(keyBytes(secret), keyBytes(point))
	if !had {
		return "", ErrShare
	}
	return string(share[:]), OK
}

// keyBytes is for a text whose length has been looked at.
func keyBytes(text string) [keySize]byte {
	var out [keySize]byte
	copy(out[:], text)
	return out
}

// nonceBytes likewise.
func nonceBytes(text string) [nonceSize]byte {
	var out [nonceSize]byte
	copy(out[:], text)
	return out
}
