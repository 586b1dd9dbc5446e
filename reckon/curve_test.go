package reckon

import "testing"

func TestShareAgainAndAgain(t *testing.T) {
	secret, from := [32]byte{9}, [32]byte{9}
	for i := range 1000 { // RFC 7748, 5.2
		share, had := Share(secret, from)
		if !had {
			t.Fatalf("P2: step %d has no share", i)
		}
		from, secret = secret, share
		if i == 0 && string(share[:]) != unhex(t, "422c8e7a6227d7bca1350b3e2bb7279f7897b87bb6854b783c60e80311ae3079") {
			t.Errorf("P2: after one step %x", share)
		}
	}
	if string(secret[:]) != unhex(t, "684cf59ba83309552800ef566f2f4d3c1c3887c49360e3875f2eb94d99532c51") {
		t.Errorf("P2: after a thousand steps %x", secret)
	}
}

func TestReadSecret(t *testing.T) {
	var ones [32]byte
	for i := range ones {
		ones[i] = 0xff
	}
	if n := readSecret(ones); n != (number{^uint64(7), ^uint64(0), ^uint64(0), 1<<63 - 1}) {
		t.Errorf("P2: a secret of ones is %x", n)
	}
	if n := readSecret([32]byte{}); n != (number{3: 1 << 62}) {
		t.Errorf("P2: a secret of zeros is %x", n)
	}
}
