package reckon

// prime is 2 to the power of bits, less a little. So 2 to the power of bits is as good as that little: what stands above that bit comes back below it, times less.
type prime struct {
	bits  int
	less  uint64
	value number
}

var curvePrime = greatPrime(255, 19)

var tagPrime = greatPrime(130, 5)

// greatPrime works out a prime of more than 64 bits and less than 256.
func greatPrime(bits int, less uint64) prime {
	var power number
	power[bits/64] = 1 << (bits % 64)
	value, _ := power.minus(number{less})
	return prime{bits: bits, less: less, value: value}
}

// reduce answers what is left of w by the prime.
func (p prime) reduce(w wide) number {
	below, above := w.cut(p.bits)
	for above != (wide{}) {
		below, above = above.timesPlus(p.less, below).cut(p.bits)
	}
	return p.lower(number(below[:4]))
}

// lower takes the prime off once, if it can be.
func (p prime) lower(n number) number {
	if lowered, borrow := n.minus(p.value); borrow == 0 {
		return lowered
	}
	return n
}

// What add, subtract and the rest take and answer is below the prime.

func (p prime) add(a, b number) number {
	sum, _ := a.plus(b)
	return p.lower(sum)
}

func (p prime) subtract(a, b number) number {
	difference, borrow := a.minus(b)
	if borrow != 0 {
		difference, _ = difference.plus(p.value)
	}
	return difference
}

func (p prime) multiply(a, b number) number {
	return p.reduce(a.times(b))
}

func (p prime) square(a number) number {
	return p.multiply(a, a)
}

// inverse is a to the power of the prime less 2; for 0 it is 0.
func (p prime) inverse(a number) number {
	exponent, _ := p.value.minus(number{2})
	power := number{1}
	for i := p.bits - 1; i >= 0; i-- {
		power = p.square(power)
		if exponent.bit(i) == 1 {
			power = p.multiply(power, a)
		}
	}
	return power
}
