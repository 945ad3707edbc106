package sum

import "stadda/api"

// attempt is what calculate returns, or ErrSize if it is left because something is too large.
func attempt[T any](calculate func() T) (result T, e api.Errno) {
	defer func() {
		if recover() != nil {
			e = api.ErrSize
		}
	}()
	return calculate(), api.OK
}

// must is the result of a call that fails only if something is too large; then it leaves the calculation.
func must[T any](result T, e api.Errno) T {
	if e != api.OK {
		panic(e)
	}
	return result
}
