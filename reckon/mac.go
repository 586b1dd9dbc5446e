package reckon

// MaxExpand is how many bytes Expand makes at most: its blocks are counted in one byte.
const MaxExpand = 255 * sumSize

// keyed is a hash begun by a key in its two ways. It is never run on itself, only its copies are.
type keyed struct {
	inner, outer running
}

// Mac is HMAC with Hash.
func Mac(key, data string) [sumSize]byte {
	k := prepare(key)
	return k.end(k.inner.add(data))
}

// Expand is the first n bytes of HKDF-Expand, for n from 0 to MaxExpand; outside of that it answers what the nearest bound does.
func Expand(key, info string, n int) string {
	n = min(max(n, 0), MaxExpand)
	k := prepare(key)
	last := ""
	made := make([]byte, 0, n+sumSize)
	for count := 1; len(made) < n; count++ {
		sum := k.end(k.inner.add(last).add(info).add(string([]byte{byte(count)})))
		last = string(sum[:])
		made = append(made, last...)
	}
	return string(made[:n])
}

func prepare(key string) keyed {
	if len(key) > blockSize {
		sum := Hash(key)
		key = string(sum[:])
	}
	return keyed{
		inner: begin().add(masked(key, 0x36)),
		outer: begin().add(masked(key, 0x5c)),
	}
}

func (k keyed) end(inner running) [sumSize]byte {
	sum := inner.end().sum()
	return k.outer.add(string(sum[:])).end().sum()
}

// masked is a block: the key with zeros behind it, each byte turned by mask.
func masked(key string, mask byte) string {
	var block [blockSize]byte
	copy(block[:], key)
	for i := range block {
		block[i] ^= mask
	}
	return string(block[:])
}
