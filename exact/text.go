package exact

import (
	"strconv"
	"strings"
)

// chunk is how many decimal digits surely fit a word, chunkBase the power of ten with as many zeros.
const (
	chunk     = 19
	chunkBase = 10_000_000_000_000_000_000
)

// isNatural reports whether s is the canonical form of an integer that is not negative.
func isNatural(s string) bool {
	for i := range len(s) {
		if s[i] < '0' || s[i] > '9' {
			return false
		}
	}
	return s == "0" || s != "" && s[0] != '0'
}

// isInteger reports whether s is the canonical form of an integer.
func isInteger(s string) bool {
	if strings.HasPrefix(s, "-") {
		return s != "-0" && isNatural(s[1:])
	}
	return isNatural(s)
}

// readDigits is the number that the decimal digits of s mean.
func readDigits(s string) digits {
	words := make([]uint64, 0, len(s)/chunk+1)
	for len(s) > 0 {
		n := (len(s)-1)%chunk + 1 // only the first chunk may be short
		carry := appendDecimal(words, s[:n])
		words = append(words, carry)
		s = s[n:]
	}
	return cut(words)
}

// appendDecimal takes the number in words to the one with a chunk of decimal digits behind its own, and returns what is carried beyond it. Before a short chunk there are no words.
func appendDecimal(words []uint64, s string) uint64 {
	var carry uint64
	for i := range len(s) {
		carry = 10*carry + uint64(s[i]-'0')
	}
	for i, x := range words {
		carry, words[i] = multiplyAdd(x, chunkBase, carry)
	}
	return carry
}

// text is the canonical form of the number.
func (d digits) text() string {
	chunks := d.chunks()
	if len(chunks) == 0 {
		return "0"
	}
	var out strings.Builder
	for i := len(chunks) - 1; i >= 0; i-- {
		part := strconv.FormatUint(chunks[i], 10)
		if out.Len() > 0 {
			out.WriteString(strings.Repeat("0", chunk-len(part)))
		}
		out.WriteString(part)
	}
	return out.String()
}

// chunks are the digits of the number to the base chunkBase, the lowest first.
func (d digits) chunks() []uint64 {
	var out []uint64
	rest := d.copied()
	for len(rest) > 0 {
		lowest := divideByWord(rest, chunkBase)
		out = append(out, lowest)
		rest = cut(rest)
	}
	return out
}
