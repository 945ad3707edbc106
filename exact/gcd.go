package exact

import "math/bits"

// gcd is the greatest number that divides both (0 if both are 0).
func gcd(a, b digits) digits {
	if a.compare(b) < 0 {
		a, b = b, a
	}
	if len(b) > 1 {
		a, b = reduce(a, b)
	}
	if len(b) == 0 {
		return a.copied()
	}
	return word(gcdOfWords(b[0], restByWord(a, b[0])))
}

func gcdOfWords(a, b uint64) uint64 {
	for b > 0 {
		a, b = b, a%b
	}
	return a
}

// restByWord is the rest of d by divisor, which is not 0.
func restByWord(d digits, divisor uint64) uint64 {
	var rest uint64
	for i := len(d) - 1; i >= 0; i-- {
		rest = bits.Rem64(rest, d[i], divisor)
	}
	return rest
}

// reduce makes steps of Euclid's algorithm from a and b, of which a is not the lesser one, until b has one word at most. It works in two rows of as many words, as new ones for each step would take longer than the step.
func reduce(a, b digits) (digits, digits) {
	x, y := padded(a, len(a)), padded(b, len(a))
	for len(cut(y)) > 1 {
		n := len(cut(x))
		x, y = x[:n], y[:n]
		s := foresee(x, y)
		if s.isNone() {
			x, y = step(x, y)
		} else {
			x, y = s.apply(x, y)
		}
	}
	return cut(x), cut(y)
}

// padded is a copy of d with zeros above the number, n words in all.
func padded(d digits, n int) []uint64 {
	words := make([]uint64, n)
	copy(words, d)
	return words
}

// step is y and the rest of x by y, which it writes over x.
func step(x, y []uint64) ([]uint64, []uint64) {
	_, rest := divide(cut(x), cut(y))
	clear(x)
	copy(x, rest)
	return y, x
}

// strides are several steps of Euclid's algorithm, made at once (Lehmer). An even number of steps takes x and y to upperX x - upperY y and lowerY y - lowerX x, an odd number to the negatives of these.
type strides struct {
	upperX, upperY uint64
	lowerX, lowerY uint64
	odd            bool
}

func (s strides) isNone() bool {
	return s.upperY == 0
}

// foresee finds the steps that the highest words of x and y settle, for x at least y, with two words or more. It ends where the words below these could change a quotient (Collins' condition).
func foresee(x, y []uint64) strides {
	n := len(x)
	shift := bits.LeadingZeros64(x[n-1])
	a := x[n-1]<<shift | x[n-2]>>(64-shift)
	b := y[n-1]<<shift | y[n-2]>>(64-shift)
	s := strides{upperX: 1, lowerY: 1}
	for b > 0 {
		q := a / b
		next := strides{
			upperX: s.lowerX, upperY: s.lowerY,
			lowerX: s.upperX + q*s.lowerX, lowerY: s.upperY + q*s.lowerY,
			odd: !s.odd,
		}
		a, b = b, a%b
		if b < next.lowerY || a-b < next.upperY+next.lowerY {
			break
		}
		s = next
	}
	return s
}

// apply makes the steps, in the memory of x and y.
func (s strides) apply(x, y []uint64) ([]uint64, []uint64) {
	if s.odd {
		x, y = y, x
		s = strides{upperX: s.upperY, upperY: s.upperX, lowerX: s.lowerY, lowerY: s.lowerX}
	}
	var upper, lower lane
	for i, a := range x {
		b := y[i]
		x[i] = upper.next(a, s.upperX, b, s.upperY)
		y[i] = lower.next(b, s.lowerY, a, s.lowerX)
	}
	return x, y
}

// lane is what the difference of two products, word by word, carries from each word to the next one.
type lane struct {
	carry, lent, borrow uint64
}

// next is the next word of the difference, from the next words a and b of the numbers and their factors p and q.
func (l *lane) next(a, p, b, q uint64) uint64 {
	var more, less, out uint64
	l.carry, more = multiplyAdd(a, p, l.carry)
	l.lent, less = multiplyAdd(b, q, l.lent)
	out, l.borrow = bits.Sub64(more, less, l.borrow)
	return out
}
