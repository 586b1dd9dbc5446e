package reckon

// MaxExpand is how many bytes Expand makes at most: its blocks are counted in one byte.
const MaxExpand = 255 * sumSize

// keyed is a hash begun by a key in its two ways. It is never run on itself, only its copies are.
type keyed struct {
	inner, outer Running
}

// Mac is HMAC with Hash.
func Mac(key, data string) [sumSize]byte {
	k := prepare(key)
	return k.end(k.inner.Add(data)).sum()
}

// IsMac tells whether a sum is Mac of key and data, by the state in which the hash ends.
func IsMac(key, data string, sum [sumSize]byte) bool {
	k := prepare(key)
	return k.end(k.inner.Add(data)) == readState(sum)
}

// Expand is the first n bytes of HKDF-Expand, for n from 0 to MaxExpand; outside of that it answers what the nearest bound does.
func Expand(key, info string, n int) string {
	n = min(max(n, 0), MaxExpand)
	k := prepare(key)
	last := ""
	made := make([]byte, 0, n+sumSize)
	for count := 1; len(made) < n; count++ {
		sum := k.end(k.inner.Add(last).Add(info).Add(One(count))).sum()
		last = string(sum[:])
		made = append(made, last...)
	}
	return string(made[:n])
}

// Derive is the n bytes that Expand makes of a secret for a purpose: the label, and the context in which it is used.
func Derive(secret, label, context string, n int) string {
	info := Two(n) + One(len(label)) + label + One(len(context)) + context
	return Expand(secret, info, n)
}

func prepare(key string) keyed {
	if len(key) > blockSize {
		sum := Hash(key)
		key = string(sum[:])
	}
	return keyed{
		inner: Begin().Add(masked(key, 0x36)),
		outer: Begin().Add(masked(key, 0x5c)),
	}
}

func (k keyed) end(inner Running) state {
	sum := inner.Sum()
	return k.outer.Add(string(sum[:])).end()
}

// masked is a block: the key with zeros behind it, each byte turned by mask.
func masked(key string, mask byte) string {
	var block [blockSize]byte
	copy(block[:], key)
	for i := range block {
		block[i] ^= mask
	}
	return string(block[:])
}
