package reckon

import (
	"math/big"
	"slices"
	"testing"
)

func bigOf(words []uint64) *big.Int {
	n := new(big.Int)
	for i := len(words) - 1; i >= 0; i-- {
		n.Lsh(n, 64).Or(n, new(big.Int).SetUint64(words[i]))
	}
	return n
}

func (n number) big() *big.Int { return bigOf(n[:]) }

func (p prime) big() *big.Int { return bigOf(p.value[:]) }

func TestGreatPrimes(t *testing.T) {
	for _, c := range []struct {
		prime prime
		bits  uint
		less  int64
	}{{curvePrime, 255, 19}, {tagPrime, 130, 5}} {
		want := new(big.Int).Lsh(big.NewInt(1), c.bits)
		want.Sub(want, big.NewInt(c.less))
		if c.prime.big().Cmp(want) != 0 || !want.ProbablyPrime(20) {
			t.Errorf("P2: 2 to the %d less %d is %x", c.bits, c.less, c.prime.value)
		}
	}
}

// nearNumbers are numbers below the prime: some of no kind, and those at its edges.
func nearNumbers(p prime) []number {
	list := []number{{}, {1}, {2}, {38}, {^uint64(0)}, {0, 1}, {0, 0, 1}}
	for less := uint64(1); less < 6; less++ {
		n, _ := p.value.minus(number{less})
		list = append(list, n)
	}
	for seed := range 12 {
		text := some(32, seed)
		n := readNumber(text[:p.bits/8])
		list = append(list, n)
	}
	return list
}

func TestPrimeArithmetic(t *testing.T) {
	for _, p := range []prime{curvePrime, tagPrime} {
		m := p.big()
		for _, a := range nearNumbers(p) {
			for _, b := range nearNumbers(p) {
				x, y := a.big(), b.big()
				for _, c := range []struct {
					name string
					got  number
					want *big.Int
				}{
					{"add", p.add(a, b), new(big.Int).Add(x, y)},
					{"subtract", p.subtract(a, b), new(big.Int).Sub(x, y)},
					{"multiply", p.multiply(a, b), new(big.Int).Mul(x, y)},
				} {
					if c.got.big().Cmp(c.want.Mod(c.want, m)) != 0 {
						t.Errorf("P2: %s of %x and %x by 2 to the %d less %d: %x", c.name, a, b, p.bits, p.less, c.got)
					}
				}
			}
		}
	}
}

func TestInverse(t *testing.T) {
	for _, p := range []prime{curvePrime, tagPrime} {
		for _, a := range nearNumbers(p) {
			want := number{1}
			if a == (number{}) {
				want = number{}
			}
			if p.multiply(a, p.inverse(a)) != want {
				t.Errorf("P2: the inverse of %x", a)
			}
		}
	}
}

func TestReduce(t *testing.T) {
	full := wide(slices.Repeat([]uint64{^uint64(0)}, 8))
	list := []wide{{}, {1}, full, {7: 1 << 63}, {4: 1}}
	for _, p := range []prime{curvePrime, tagPrime} {
		for more := range uint64(45) {
			n, _ := p.value.plus(number{more})
			list = append(list, wide{n[0], n[1], n[2], n[3]})
		}
	}
	for _, p := range []prime{curvePrime, tagPrime} {
		for _, w := range list {
			want := bigOf(w[:])
			if p.reduce(w).big().Cmp(want.Mod(want, p.big())) != 0 {
				t.Errorf("P2: %x by 2 to the %d less %d: %x", w, p.bits, p.less, p.reduce(w))
			}
		}
	}
}

func TestCut(t *testing.T) {
	w := wide{1<<63 | 1, 2, 3, 4, 5, 6, 7, 8 | 1<<63}
	for bit := range 512 {
		below, above := w.cut(bit)
		whole := bigOf(above[:])
		whole.Lsh(whole, uint(bit)).Add(whole, bigOf(below[:]))
		if whole.Cmp(bigOf(w[:])) != 0 || bigOf(below[:]).BitLen() > bit {
			t.Errorf("P2: cut at %d: %x, %x", bit, below, above)
		}
	}
}

func TestNumberBytes(t *testing.T) {
	for n := range 33 {
		text := some(n, n)
		want := [32]byte{}
		copy(want[:], text)
		if readNumber(text).bytes() != want {
			t.Errorf("P2: a number of %d bytes", n)
		}
	}
	if readNumber(some(40, 1)) != readNumber(some(40, 1)[:32]) {
		t.Error("P2: a number of more than 32 bytes")
	}
}
