package cube_test

import (
	"math"
	"math/big"
	"slices"
	"testing"

	"stadda/api"
	"stadda/chance"
	"stadda/cube"
)

// P7.1: Check, Remainders, Reals, FromReals, Degree, Spectrum. (Sensitivity, Certificates and Depth: see the tests of witnesses.)

func TestCheck(t *testing.T) {
	for n := range 7 {
		for _, f := range [][]bool{make([]bool, 1<<n), where(n, func(int) bool { return true }), make([]bool, 200)[:1<<n]} {
			if e := cube.Check(f); e != api.OK {
				t.Errorf("Check of %d elements: %d", len(f), e)
			}
		}
	}
}

// What is no table comes before all other errors.
func TestNoTables(t *testing.T) {
	for _, f := range noTables() {
		want := func(name string, isZero bool, e api.Errno) {
			t.Helper()
			if !isZero || e != api.ErrTable {
				t.Errorf("%s of %d elements: a result is %t, %d", name, len(f), !isZero, e)
			}
		}
		want("Check", true, cube.Check(f))
		g, e := cube.Remainders(f)
		want("Remainders", len(g) == 0, e)
		c, e := cube.Reals(f)
		want("Reals", len(c) == 0, e)
		c, e = cube.Spectrum(f)
		want("Spectrum", len(c) == 0, e)
		g, e = cube.FromReals(make([]int, len(f)))
		want("FromReals", len(g) == 0, e)
		for _, call := range []func([]bool) (int, api.Errno){cube.Degree, cube.Sensitivity, cube.Certificates, cube.Depth} {
			n, e := call(f)
			want("a measure", n == 0, e)
		}
		x, l, e := cube.Blocks(f)
		want("Blocks", x == 0 && len(l) == 0, e)
		tree, e := cube.Decide(f)
		want("Decide", tree.Bit == 0 && !tree.Value && len(tree.Parts) == 0, e)
		pairs, e := cube.Primes(f)
		want("Primes", len(pairs) == 0, e)
		pairs, e = cube.Cover(f)
		want("Cover", len(pairs) == 0, e)
		x, bit, is, e := cube.Rising(f)
		want("Rising", x == 0 && bit == 0 && !is, e)
		g, e = cube.Twin(f)
		want("Twin", len(g) == 0, e)
		for _, i := range append([]int{-1, 0, 1}, extremes...) {
			n, e := cube.Certificate(f, i)
			want("Certificate", n == 0, e)
			n, e = cube.Influence(f, i)
			want("Influence", n == 0, e)
			if cube.IsBlocks(f, i, nil) || cube.IsBlocks(f, i, []int{1}) {
				t.Errorf("IsBlocks of %d elements", len(f))
			}
		}
		for _, is := range []bool{false, true} {
			if cube.Finds(f, cube.Tree{Value: is}) || cube.IsCover(f, nil) || cube.IsCover(f, [][2]int{{0, 0}}) {
				t.Errorf("Finds, IsCover of %d elements", len(f))
			}
		}
	}
}

// remaindersOf is the remainder form by the definition, solved from the masks with the fewest bits on.
func remaindersOf(f []bool) []bool {
	g := make([]bool, len(f))
	for x := range f { // all masks in x but x itself are less than x
		n := 0
		for m := range x {
			if g[m] && isIn(m, x) {
				n++
			}
		}
		g[x] = f[x] != (n%2 == 1)
	}
	return g
}

// realsOf is the real form by the definition.
func realsOf(f []bool) []int {
	c := make([]int, len(f))
	for x := range f {
		if f[x] {
			c[x] = 1
		}
		for m := range x {
			if isIn(m, x) {
				c[x] -= c[m]
			}
		}
	}
	return c
}

// spectrumOf is the spectrum by the definition.
func spectrumOf(f []bool) []int {
	s := make([]int, len(f))
	for m := range f {
		for x, is := range f {
			n := ones(m & x)
			if is {
				n++
			}
			s[m] += 1 - n%2*2
		}
	}
	return s
}

func TestFormsByTheDefinition(t *testing.T) {
	for _, f := range functions(711, 6, 500) {
		if g, want := got(t, "Remainders", f, cube.Remainders), remaindersOf(f); !slices.Equal(g, want) {
			t.Errorf("Remainders of %s: %s instead of %s", text(f), text(g), text(want))
		}
		c := realsOf(f)
		if l := got(t, "Reals", f, cube.Reals); !slices.Equal(l, c) {
			t.Errorf("Reals of %s: %v instead of %v", text(f), l, c)
		}
		degree := 0
		for m, n := range c {
			if n != 0 {
				degree = max(degree, ones(m))
			}
		}
		if n := got(t, "Degree", f, cube.Degree); n != degree {
			t.Errorf("Degree of %s: %d instead of %d", text(f), n, degree)
		}
		if l, want := got(t, "Spectrum", f, cube.Spectrum), spectrumOf(f); !slices.Equal(l, want) {
			t.Errorf("Spectrum of %s: %v instead of %v", text(f), l, want)
		}
	}
}

func TestKnownForms(t *testing.T) {
	for _, x := range []struct {
		f, remainders   string
		reals, spectrum []int
		degree          int
	}{
		{"0", "0", []int{0}, []int{1}, 0}, {"1", "1", []int{1}, []int{-1}, 0}, {"01", "01", []int{0, 1}, []int{0, 2}, 1}, {"10", "11", []int{1, -1}, []int{0, -2}, 1},
		{"11", "10", []int{1, 0}, []int{-2, 0}, 0}, {"0110", "0110", []int{0, 1, 1, -2}, []int{0, 0, 0, 4}, 2}, {"0001", "0001", []int{0, 0, 0, 1}, []int{2, 2, 2, -2}, 2},
		{"0111", "0111", []int{0, 1, 1, -1}, []int{-2, 2, 2, 2}, 2}, {"0011", "0010", []int{0, 0, 1, 0}, []int{0, 0, 4, 0}, 1},
		{"00010111", "00010110", []int{0, 0, 0, 1, 0, 1, 1, -2}, []int{0, 4, 4, 0, 4, 0, 0, -4}, 3},
	} {
		f := table(x.f)
		g, c, s, n := got(t, "Remainders", f, cube.Remainders), got(t, "Reals", f, cube.Reals), got(t, "Spectrum", f, cube.Spectrum), got(t, "Degree", f, cube.Degree)
		if text(g) != x.remainders || !slices.Equal(c, x.reals) || !slices.Equal(s, x.spectrum) || n != x.degree {
			t.Errorf("%s: %s, %v, %v, %d", x.f, text(g), c, s, n)
		}
	}
}

func TestFormsThereAndBack(t *testing.T) {
	for _, f := range slices.Concat(small(4), known(6), some(712, 5, 6, 500)) {
		if g := got(t, "Remainders", got(t, "Remainders", f, cube.Remainders), cube.Remainders); !slices.Equal(g, f) {
			t.Errorf("Remainders of %s twice: %s", text(f), text(g))
		}
		c := got(t, "Reals", f, cube.Reals)
		if g, e := cube.FromReals(c); !slices.Equal(g, f) || e != api.OK {
			t.Errorf("FromReals of %v: %s, %d instead of %s", c, text(g), e, text(f))
		}
	}
}

// fromReals is the function whose real form is c by the definition, or nil.
func fromReals(c []int) []bool {
	f := make([]bool, len(c))
	for x := range f {
		sum := new(big.Int)
		for m, n := range c {
			if isIn(m, x) {
				sum.Add(sum, big.NewInt(int64(n)))
			}
		}
		if !sum.IsInt64() || sum.Int64() != 0 && sum.Int64() != 1 {
			return nil
		}
		f[x] = sum.Int64() == 1
	}
	return f
}

// wantFromReals checks what FromReals returns.
func wantFromReals(t *testing.T, c []int) {
	t.Helper()
	want, code := fromReals(c), api.OK
	if want == nil {
		code = api.ErrArg
	}
	before := slices.Clone(c)
	if f, e := cube.FromReals(c); !slices.Equal(f, want) || e != code || !slices.Equal(c, before) {
		t.Errorf("FromReals of %v: %s, %d instead of %s, %d", c, text(f), e, text(want), code)
	}
}

func TestFromReals(t *testing.T) {
	for _, numbers := range [][]int{{-3, -2, -1, 0, 1, 2, 3}, {math.MinInt, -1, 0, 1, math.MaxInt}, {math.MinInt, math.MinInt + 1, -1 << 62, 0, 1, 1 << 62, math.MaxInt}, {-1 << 32, 0, 1, 1 << 32, 1<<32 + 1}} {
		for _, a := range numbers {
			wantFromReals(t, []int{a})
			for _, b := range numbers {
				wantFromReals(t, []int{a, b})
				for _, c := range numbers {
					for _, d := range numbers {
						wantFromReals(t, []int{a, b, c, d})
					}
				}
			}
		}
	}
	s := chance.Source(713)
	for _, f := range slices.Concat(known(6), some(714, 3, 6, 500)) {
		c := realsOf(f)
		wantFromReals(t, c)
		for _, n := range append([]int{-2, -1, 1, 2}, extremes...) {
			changed := slices.Clone(c)
			changed[s.Below(len(c))] += n
			wantFromReals(t, changed)
			changed[s.Below(len(c))] = n
			wantFromReals(t, changed)
			changed = slices.Clone(c)
			changed[len(c)-1] += n
			wantFromReals(t, changed)
		}
	}
}

// What lies beyond the length of a list is not read.
func TestFromPartsOfLists(t *testing.T) {
	c := []int{0, 1, 1, -2, 5, 6, 7, 8, 9, 10, 11}
	for _, n := range []int{1, 2, 4} {
		wantFromReals(t, c[:n])
	}
	if !slices.Equal(c, []int{0, 1, 1, -2, 5, 6, 7, 8, 9, 10, 11}) {
		t.Errorf("FromReals left %v", c)
	}
	for _, n := range []int{0, 3, 5, 11} {
		if f, e := cube.FromReals(c[:n]); len(f) > 0 || e != api.ErrTable {
			t.Errorf("FromReals of %d numbers: %s, %d", n, text(f), e)
		}
	}
}

// R4: the functions of all chapters leave the table as it is, and their results share nothing with it or with others.
func TestFormsAreNew(t *testing.T) {
	for _, f := range functions(715, 6, 50) {
		spare := append(slices.Clone(f), true, false, true)
		part := spare[:len(f)]
		g, r := got(t, "Remainders", part, cube.Remainders), remaindersOf(f)
		c, s := got(t, "Reals", part, cube.Reals), got(t, "Spectrum", part, cube.Spectrum)
		h, _ := cube.FromReals(c)
		for x := range f {
			part[x] = !part[x]
		}
		if !slices.Equal(g, r) || !slices.Equal(c, realsOf(f)) || !slices.Equal(s, spectrumOf(f)) || !slices.Equal(h, f) {
			t.Errorf("forms of %s share memory", text(f))
		}
		copy(part, f)
		_ = append(g, false, false, false)
		clear(g)
		clear(c)
		clear(s)
		clear(h)
		if text(spare) != text(f)+"101" {
			t.Errorf("%s has become %s", text(f), text(spare))
		}
		if l := got(t, "Reals", part, cube.Reals); !slices.Equal(l, realsOf(f)) {
			t.Errorf("Reals of %s, later: %v", text(f), l)
		}
	}
}
