package exact

import "math/bits"

// divide is the quotient and the rest of a by b, which is not 0.
func divide(a, b digits) (digits, digits) {
	if a.compare(b) < 0 {
		return nil, a.copied()
	}
	if len(b) == 1 {
		quotient := a.copied()
		rest := divideByWord(quotient, b[0])
		return cut(quotient), word(rest)
	}
	// With the highest bit of the divisor set, its first two words settle each digit of the quotient up to one.
	shift := bits.LeadingZeros64(b[len(b)-1])
	divisor := cut(shiftLeft(b, shift))
	rest := shiftLeft(a, shift)
	quotient := make([]uint64, len(a)-len(b)+1)
	for i := len(quotient) - 1; i >= 0; i-- {
		quotient[i] = takeAway(rest[i:i+len(divisor)+1], divisor)
	}
	return cut(quotient), shiftRight(rest, shift)
}

// exactly is a divided by b, which divides it and is not 0.
func exactly(a, b digits) digits {
	if b.isOne() { // so common that it is worth a shorter way
		return a.copied()
	}
	quotient, _ := divide(a, b)
	return quotient
}

// divideByWord divides the number in words by divisor, which is not 0, and returns the rest.
func divideByWord(words []uint64, divisor uint64) uint64 {
	var rest uint64
	for i := len(words) - 1; i >= 0; i-- {
		words[i], rest = bits.Div64(rest, words[i], divisor)
	}
	return rest
}

// takeAway takes divisor from part as often as it can and returns how often that was, which fits a word. Part has one word more than divisor, whose highest bit is set.
func takeAway(part []uint64, divisor digits) uint64 {
	n := len(divisor)
	times := estimate(part[n-2:], divisor[n-1], divisor[n-2])
	borrow := subtractProduct(part[:n], divisor, times)
	top, tooOften := bits.Sub64(part[n], borrow, 0)
	if tooOften > 0 {
		times--
		top += increase(part[:n], divisor)
	}
	part[n] = top
	return times
}

// estimate is how often the divisor that begins with the words first and second goes into the number that begins with the three of top (the highest one last), or one more.
func estimate(top []uint64, first, second uint64) uint64 {
	if top[2] >= first { // then it is 2^64 - 2 times at least, as first is 2^63 at least
		return 1<<64 - 1
	}
	times, rest := bits.Div64(top[2], top[1], first)
	high, low := bits.Mul64(times, second)
	if high > rest || high == rest && low > top[0] {
		times--
	}
	return times
}

// root is the greatest number whose square is at most d: Newton's steps fall from above until they reach it.
func root(d digits) digits {
	if len(d) == 0 {
		return nil
	}
	power := (d.bitLength() + 1) / 2 // 2^power is more than the root
	start := make([]uint64, power/64+1)
	start[power/64] = 1 << (power % 64)
	found := cut(start)
	for {
		ratio, _ := divide(d, found)
		next := shiftRight(found.plus(ratio), 1)
		if next.compare(found) >= 0 {
			return found
		}
		found = next
	}
}
