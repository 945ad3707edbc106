package exact

import (
	"cmp"
	"math/bits"
)

// digits are a natural number of any size to the base 2^64, the lowest digit first and the highest one not 0; 0 is nil, so that each number is written in one way only. They are not changed once they are made.
type digits []uint64

// cut takes away the zeros above the number. It takes away the spare room too, so that appending to one number never writes into another.
func cut(words []uint64) digits {
	n := len(words)
	for n > 0 && words[n-1] == 0 {
		n--
	}
	if n == 0 {
		return nil
	}
	return words[:n:n]
}

// word is a number of one digit at most.
func word(w uint64) digits {
	return cut([]uint64{w})
}

// copied is the same number in new memory.
func (d digits) copied() digits {
	words := make([]uint64, len(d))
	copy(words, d)
	return cut(words)
}

func (d digits) isOne() bool {
	return len(d) == 1 && d[0] == 1
}

// at is the digit at place i, also beyond the highest one.
func (d digits) at(i int) uint64 {
	if i < len(d) {
		return d[i]
	}
	return 0
}

// bitLength is the least n for which the number is less than 2^n.
func (d digits) bitLength() int {
	if len(d) == 0 {
		return 0
	}
	return 64*(len(d)-1) + bits.Len64(d[len(d)-1])
}

// compare is the sign of d - e.
func (d digits) compare(e digits) int {
	if len(d) != len(e) {
		return cmp.Compare(len(d), len(e))
	}
	for i := len(d) - 1; i >= 0; i-- {
		if d[i] != e[i] {
			return cmp.Compare(d[i], e[i])
		}
	}
	return 0
}

func (d digits) plus(e digits) digits {
	if len(d) < len(e) {
		d, e = e, d
	}
	sum := make([]uint64, len(d)+1)
	copy(sum, d)
	sum[len(d)] = increase(sum[:len(d)], e)
	return cut(sum)
}

// minus is d - e, for e at most d.
func (d digits) minus(e digits) digits {
	difference := make([]uint64, len(d))
	var borrow uint64
	for i, x := range d {
		difference[i], borrow = bits.Sub64(x, e.at(i), borrow)
	}
	return cut(difference)
}

func (d digits) times(e digits) digits {
	if len(d) > len(e) { // a long inner loop is faster than a long outer one
		d, e = e, d
	}
	product := make([]uint64, len(d)+len(e))
	for i, x := range d {
		product[i+len(e)] = addProduct(product[i:i+len(e)], e, x)
	}
	return cut(product)
}

// increase adds d to sum, which has at least as many words, and returns what is carried beyond it.
func increase(sum []uint64, d digits) uint64 {
	var carry uint64
	for i, x := range d {
		sum[i], carry = bits.Add64(sum[i], x, carry)
	}
	for i := len(d); i < len(sum) && carry > 0; i++ {
		sum[i], carry = bits.Add64(sum[i], 0, carry)
	}
	return carry
}

// addProduct adds d times factor to sum, which has as many words as d, and returns what is carried beyond it.
func addProduct(sum []uint64, d digits, factor uint64) uint64 {
	var carry uint64
	for i, x := range d {
		high, low := multiplyAdd(x, factor, carry)
		var up uint64
		sum[i], up = bits.Add64(sum[i], low, 0)
		carry = high + up
	}
	return carry
}

// subtractProduct takes d times factor from rest, which has as many words as d, and returns what is borrowed from beyond it.
func subtractProduct(rest []uint64, d digits, factor uint64) uint64 {
	var borrow uint64
	for i, x := range d {
		high, low := multiplyAdd(x, factor, borrow)
		var down uint64
		rest[i], down = bits.Sub64(rest[i], low, 0)
		borrow = high + down
	}
	return borrow
}

// multiplyAdd is x y + z, as a high word and a low one.
func multiplyAdd(x, y, z uint64) (uint64, uint64) {
	high, low := bits.Mul64(x, y)
	low, carry := bits.Add64(low, z, 0)
	return high + carry, low
}

// shiftLeft is d times 2^n, for n less than 64, in one word more than d has.
func shiftLeft(d digits, n int) []uint64 {
	words := make([]uint64, len(d)+1)
	for i, x := range d {
		words[i] |= x << n
		words[i+1] = x >> (64 - n)
	}
	return words
}

// shiftRight is what remains of the number in words without its lowest n bits, for n less than 64.
func shiftRight(words []uint64, n int) digits {
	out := make([]uint64, len(words))
	for i, x := range words {
		out[i] = x >> n
		if i > 0 {
			out[i-1] |= x << (64 - n)
		}
	}
	return cut(out)
}
