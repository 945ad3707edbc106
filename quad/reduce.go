package quad

import "stadda/api"

// Reduce is the reduced form that is equivalent to f, and a change that takes f to it.
func Reduce(f Form) (Form, [2][2]int64, api.Errno) {
	if e := Check(f); e != api.OK {
		return Form{}, matrix{}, e
	}
	r, m := f.reduced()
	return r, m, api.OK
}

// reduced is the reduced form with a change that takes f to it. Each turn makes a less, so they end.
func (f Form) reduced() (Form, matrix) {
	m := matrix{{1, 0}, {0, 1}}
	step := func(n matrix) {
		f, m = f.changed(n), composed(m, n)
	}
steps:
	for {
		step(matrix{{1, (centred(f[1], f[0]) - f[1]) / (2 * f[0])}, {0, 1}})
		switch {
		case f[0] > f[2]:
			step(turn())
		case f[0] == f[2] && f[1] < 0:
			step(turn())
			break steps
		default:
			break steps
		}
	}
	return f, m
}

// turn takes a, b, c to c, -b, a.
func turn() matrix {
	return matrix{{0, -1}, {1, 0}}
}

// centred is the number that leaves the same rest as n by 2 a and is from 1 - a to a.
func centred(n, a int64) int64 {
	rest := n % (2 * a)
	switch {
	case rest > a:
		return rest - 2*a
	case rest <= -a:
		return rest + 2*a
	}
	return rest
}

// composed is the change m, followed by n.
func composed(m, n matrix) matrix {
	var out matrix
	for i := range out {
		for j := range out[i] {
			out[i][j] = m[i][0]*n[0][j] + m[i][1]*n[1][j]
		}
	}
	return out
}

// undone is the change that undoes m.
func undone(m matrix) matrix {
	return matrix{{m[1][1], -m[0][1]}, {-m[1][0], m[0][0]}}
}

// Alike is a change that takes f to g, and whether there is one.
func Alike(f, g Form) ([2][2]int64, bool, api.Errno) {
	if e := checkAll(f, g); e != api.OK {
		return matrix{}, false, e
	}
	r, m := f.reduced()
	s, n := g.reduced()
	if r != s {
		return matrix{}, false, api.OK
	}
	return composed(m, undone(n)), true, api.OK
}

// Selves is how many changes take f to itself.
func Selves(f Form) (int, api.Errno) {
	if e := Check(f); e != api.OK {
		return 0, e
	}
	r, _ := f.reduced() // f has as many as it, and only multiples of x x + x y + y y and x x + y y have more than two
	switch r {
	case Form{r[0], r[0], r[0]}:
		return 6, api.OK
	case Form{r[0], 0, r[0]}:
		return 4, api.OK
	}
	return 2, api.OK
}
