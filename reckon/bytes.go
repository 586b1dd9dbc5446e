package reckon

// One is n in one byte.
func One(n int) string { return string([]byte{byte(n)}) }

// Two is n in two bytes, the higher first.
func Two(n int) string { return string([]byte{byte(n >> 8), byte(n)}) }

// Eight is n in eight bytes, the highest first.
func Eight(n uint64) string {
	var out [8]byte
	for i := range out {
		out[i] = byte(n >> (56 - i*8))
	}
	return string(out[:])
}
