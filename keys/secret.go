// Package keys has the secrets of a talk: how two ends come by them, what they prove by them, and what they seal by them.
package keys

import "parley/reckon"

// Secret is an array, so that it can be cleared when it is not needed any more.
type Secret [32]byte

// Agree answers what the secrets of the finishes are derived from, and what those behind them are. The key is empty, if none is used.
func Agree(key []byte, share Secret) (mid, master Secret) {
	var zeros Secret
	if len(key) == 0 {
		key = zeros[:]
	}
	early := zeros.mac(string(key))
	mid = early.next(share)
	early.Clear()
	return mid, mid.next(zeros)
}

// next goes from one stage of agreeing to the next one, to which something comes in.
func (s *Secret) next(in Secret) Secret {
	derived := s.Derive("derived", "")
	defer derived.Clear()
	return derived.mac(string(in[:]))
}

// Derive answers a secret made of this one for what the label says, in a context.
func (s *Secret) Derive(label, context string) Secret {
	var made Secret
	copy(made[:], reckon.Derive(string(s[:]), label, context, len(made)))
	return made
}

func (s *Secret) mac(data string) Secret { return reckon.Mac(string(s[:]), data) }

// Clear leaves nothing of the secret.
func (s *Secret) Clear() { clear(s[:]) }
