package heap

import (
	"iter"
	"strings"

	"stadda/api"
)

// maxDigits is how many digits a code has at most.
const maxDigits = 8

// What a digit allows, as parts of its sum.
const (
	allTaken  = 1 << iota // the whole heap is taken
	keptWhole             // what is left stays as one heap
	parted                // what is left becomes two heaps
)

// code are the digits after the point.
type code []int

// read is the code that the text is, or ErrCode.
func read(text string) (code, api.Errno) {
	rest, ok := strings.CutPrefix(text, "0.")
	if !ok || rest == "" || len(rest) > maxDigits {
		return nil, api.ErrCode
	}
	var c code
	for _, digit := range rest {
		if digit < '0' || digit > '7' {
			return nil, api.ErrCode
		}
		c = append(c, int(digit-'0'))
	}
	return c, api.OK
}

// Check tells whether the string is a code.
func Check(code string) api.Errno {
	_, e := read(code)
	return e
}

// moves yields what each move leaves of a heap of n: two heaps, of which one or both are 0 if they are not there.
func (c code) moves(n int) iter.Seq2[int, int] {
	return func(yield func(int, int) bool) {
		for i, digit := range c {
			rest := n - (i + 1)
			if digit&allTaken != 0 && rest == 0 && !yield(0, 0) {
				return
			}
			if digit&keptWhole != 0 && rest > 0 && !yield(0, rest) {
				return
			}
			for part := 1; digit&parted != 0 && 2*part <= rest; part++ {
				if !yield(part, rest-part) {
					return
				}
			}
		}
	}
}
