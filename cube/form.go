package cube

import (
	"slices"

	"stadda/api"
	"stadda/bitset"
)

// turn puts, for one bit after the other, what step makes of them in place of each two elements of the list, the one without the bit and the one with it.
func turn[T bool | int](list []T, step func(without, with T) (T, T)) {
	for bit := 1; bit < len(list); bit *= 2 {
		for x := range list {
			if x&bit == 0 {
				list[x], list[x|bit] = step(list[x], list[x|bit])
			}
		}
	}
}

// values are no where f is false, and yes where it is true.
func values(f []bool, no, yes int) sums {
	var list sums
	for x, is := range f {
		list[x] = no
		if is {
			list[x] = yes
		}
	}
	return list
}

// Remainders is the remainder form of f.
func Remainders(f []bool) ([]bool, api.Errno) {
	if e := Check(f); e != api.OK {
		return nil, e
	}
	g := slices.Clone(f)
	turn(g, func(without, with bool) (bool, bool) { return without, with != without })
	return g, api.OK
}

// Reals is the real form of f.
func Reals(f []bool) ([]int, api.Errno) {
	if e := Check(f); e != api.OK {
		return nil, e
	}
	c := values(f, 0, 1)
	turn(c[:len(f)], func(without, with int) (int, int) { return without, with - without })
	return c[:len(f)], api.OK
}

// FromReals is the function whose real form is c.
func FromReals(c []int) ([]bool, api.Errno) {
	if e := checkSize(len(c)); e != api.OK {
		return nil, e
	}
	var sum sums
	copy(sum[:], c)
	// Sums that are too large wrap around. Even so, lists that differ lead to values that differ, and each function's values come from its real form: only a real form leads to values 0 and 1.
	turn(sum[:len(c)], func(without, with int) (int, int) { return without, with + without })
	f := make([]bool, len(c))
	for x := range f {
		if sum[x] != 0 && sum[x] != 1 {
			return nil, api.ErrArg
		}
		f[x] = sum[x] == 1
	}
	return f, api.OK
}

// Degree is the degree of f.
func Degree(f []bool) (int, api.Errno) {
	c, e := Reals(f)
	if e != api.OK {
		return 0, e
	}
	degree := 0
	for mask, n := range c {
		if n != 0 {
			degree = max(degree, bitset.Count(mask))
		}
	}
	return degree, api.OK
}

// Spectrum is the spectrum of f.
func Spectrum(f []bool) ([]int, api.Errno) {
	if e := Check(f); e != api.OK {
		return nil, e
	}
	s := values(f, 1, -1)
	turn(s[:len(f)], func(without, with int) (int, int) { return without + with, without - with })
	return s[:len(f)], api.OK
}
