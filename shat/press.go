package shat

import (
	"stadda/api"
	"stadda/bitset"
)

// press presses the family at element i.
func (f *marks) press(i int) {
	for s, is := range *f {
		if below := s &^ (1 << i); is && !f[below] {
			f[s], f[below] = false, true
		}
	}
}

// Press is the family pressed at i.
func Press(n int, l []int, i int) ([]int, api.Errno) {
	if e := Check(n, l); e != api.OK {
		return nil, e
	}
	if i < 0 || i >= n {
		return nil, api.ErrArg
	}
	f := marked(l)
	f.press(i)
	return f.list(), api.OK
}

// Down is the family pressed at all elements until nothing changes.
func Down(n int, l []int) ([]int, api.Errno) {
	if e := Check(n, l); e != api.OK {
		return nil, e
	}
	for f := marked(l); ; {
		before := f
		for i := range n {
			f.press(i)
		}
		if f == before {
			return f.list(), api.OK
		}
	}
}

// Closure is the least family with all sets of l that is closed downward, or upward.
func Closure(n int, l []int, upward bool) ([]int, api.Errno) {
	if e := Check(n, l); e != api.OK {
		return nil, e
	}
	var f marks
	for _, s := range l {
		least, free := 0, s
		if upward {
			least, free = s, (1<<n-1)&^s
		}
		for part := range bitset.Within(free) {
			f[least|part] = true
		}
	}
	return f.list(), api.OK
}
