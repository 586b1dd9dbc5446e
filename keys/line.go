package keys

import "parley/reckon"

const nonceSize = 12

// Line is one way of a talk: the secret that seals its records, and how many it has sealed. A Line that was not laid has no secret.
type Line struct {
	secret Secret
	count  uint64
	laid   bool
}

// Lay answers a line that begins with a secret.
func Lay(s Secret) Line { return Line{secret: s, laid: true} }

// Laid tells whether there is a secret to seal or open by.
func (l *Line) Laid() bool { return l.laid }

// Seal answers the data of the next record, sealed.
func (l *Line) Seal(head, data string) string {
	key, nonce := l.keys()
	defer key.Clear()
	l.count++
	return reckon.Seal(key, nonce, head, data)
}

// Open answers what was sealed as the next record; false, if it was not.
func (l *Line) Open(head, text string) (string, bool) {
	key, nonce := l.keys()
	defer key.Clear()
	data, opened := reckon.Open(key, nonce, head, text)
	if opened {
		l.count++
	}
	return data, opened
}

// keys are those of the next record. They are derived each time, so that no more than the secret is kept.
func (l *Line) keys() (key Secret, nonce [nonceSize]byte) {
	copy(nonce[:], reckon.Derive(string(l.secret[:]), "iv", "", nonceSize))
	for i, b := range []byte(reckon.Eight(l.count)) {
		nonce[nonceSize-8+i] ^= b
	}
	return l.secret.Derive("key", ""), nonce
}

// Renew goes on with another secret, from which nobody finds the way back.
func (l *Line) Renew() {
	l.secret, l.count = l.secret.Derive("upd", ""), 0
}

// Prove answers what shows that an end knows the secret: a finish, over what was said.
func (l *Line) Prove(said string) string {
	key := l.secret.Derive("finished", "")
	defer key.Clear()
	sum := key.mac(said)
	return string(sum[:])
}

// Proves tells whether a finish is the one over what was said.
func (l *Line) Proves(said string, finish [32]byte) bool {
	key := l.secret.Derive("finished", "")
	defer key.Clear()
	return reckon.IsMac(string(key[:]), said, finish)
}

// Clear leaves nothing of the line.
func (l *Line) Clear() {
	l.secret.Clear()
	l.count, l.laid = 0, false
}
