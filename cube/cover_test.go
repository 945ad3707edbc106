package cube_test

import (
	"slices"
	"testing"

	"stadda/api"
	"stadda/chance"
	"stadda/cube"
)

// P7.3: Primes, Cover, IsCover. (Influence and Rising: see the tests of blocks.)

// isImplicant tells whether m and v are an implicant by the definition.
func isImplicant(f []bool, m, v int) bool {
	if m < 0 || m >= len(f) || v < 0 || v >= len(f) || !isIn(v, m) {
		return false
	}
	for x, is := range f {
		if x&m == v && !is {
			return false
		}
	}
	return true
}

// primesOf are all prime implicants by the definition.
func primesOf(f []bool) [][2]int {
	var list [][2]int
	for m := range f {
	next:
		for v := range m + 1 {
			if !isImplicant(f, m, v) {
				continue
			}
			for bit := range width(f) {
				if m>>bit&1 == 1 && isImplicant(f, m-1<<bit, v-v>>bit&1<<bit) {
					continue next
				}
			}
			list = append(list, [2]int{m, v})
		}
	}
	return list
}

// isCover tells whether l is a cover by the definition.
func isCover(f []bool, l [][2]int) bool {
	for i, p := range l {
		if !isImplicant(f, p[0], p[1]) || i > 0 && (p[0] < l[i-1][0] || p[0] == l[i-1][0] && p[1] <= l[i-1][1]) {
			return false
		}
	}
	for x, is := range f {
		if is && !slices.ContainsFunc(l, func(p [2]int) bool { return x&p[0] == p[1] }) {
			return false
		}
	}
	return true
}

// wantIsCover checks what IsCover returns.
func wantIsCover(t *testing.T, f []bool, l ...[2]int) {
	t.Helper()
	before := slices.Clone(l)
	if is := cube.IsCover(f, l); is != isCover(f, l) || !slices.Equal(l, before) {
		t.Errorf("IsCover of %s and %v: %t", text(f), l, is)
	}
}

func TestPrimes(t *testing.T) {
	for _, f := range functions(751, 6, 200) {
		l, want := got(t, "Primes", f, cube.Primes), primesOf(f)
		if !slices.Equal(l, want) {
			t.Errorf("Primes of %s: %v instead of %v", text(f), l, want)
		}
		wantIsCover(t, f, l...)
		if !isCover(f, l) {
			t.Errorf("Primes of %s: %v are no cover", text(f), l)
		}
	}
}

func TestKnownPrimes(t *testing.T) {
	for _, x := range []struct {
		f    string
		want [][2]int
	}{
		{"0", nil}, {"1", [][2]int{{0, 0}}}, {"00", nil}, {"01", [][2]int{{1, 1}}}, {"10", [][2]int{{1, 0}}}, {"11", [][2]int{{0, 0}}}, {"0110", [][2]int{{3, 1}, {3, 2}}}, {"1001", [][2]int{{3, 0}, {3, 3}}},
		{"0111", [][2]int{{1, 1}, {2, 2}}}, {"1110", [][2]int{{1, 0}, {2, 0}}}, {"1011", [][2]int{{1, 0}, {2, 2}}}, {"00010111", [][2]int{{3, 3}, {5, 5}, {6, 6}}},
		{"01111110", [][2]int{{3, 1}, {3, 2}, {5, 1}, {5, 4}, {6, 2}, {6, 4}}}, {"01010011", [][2]int{{5, 1}, {6, 6}, {3, 3}}},
	} {
		slices.SortFunc(x.want, func(a, b [2]int) int { return slices.Compare(a[:], b[:]) })
		if l := got(t, "Primes", table(x.f), cube.Primes); !slices.Equal(l, x.want) {
			t.Errorf("Primes of %s: %v instead of %v", x.f, l, x.want)
		}
	}
	if l := got(t, "Primes", where(6, func(x int) bool { return ones(x)%3 > 0 }), cube.Primes); len(l) < 60 {
		t.Errorf("%d Primes", len(l))
	}
}

// coverSizes are, for each function of n bits, how few implicants cover it: the lists of one more implicant come after each other.
func coverSizes(n int) []int {
	size := 1 << n
	var implicants []int // the functions that they cover
	for m := range size {
		for v := range m + 1 {
			if isIn(v, m) {
				f := 0
				for x := range size {
					if x&m == v {
						f |= 1 << x
					}
				}
				implicants = append(implicants, f)
			}
		}
	}
	sizes := make([]int, 1<<size)
	for i := range sizes {
		sizes[i] = -1
	}
	sizes[0] = 0
	for queue := []int{0}; len(queue) > 0; queue = queue[1:] {
		for _, i := range implicants {
			if g := queue[0] | i; sizes[g] < 0 {
				sizes[g] = sizes[queue[0]] + 1
				queue = append(queue, g)
			}
		}
	}
	return sizes
}

// All functions of up to four bits.
func TestCover(t *testing.T) {
	for n := range 5 {
		for number, want := range coverSizes(n) {
			f := numbered(n, uint64(number))
			l := got(t, "Cover", f, cube.Cover)
			if len(l) != want || !isCover(f, l) || !cube.IsCover(f, l) {
				t.Errorf("Cover of %s: %v, %d are enough", text(f), l, want)
			}
		}
	}
}

func TestCoversOfTooManyBits(t *testing.T) {
	for _, f := range slices.Concat(ordered(5), some(752, 5, 6, 50), [][]bool{make([]bool, 32), make([]bool, 64), where(5, func(int) bool { return true }), where(6, func(x int) bool { return x == 0 })}) {
		if l, e := cube.Cover(f); len(l) > 0 || e != api.ErrLong {
			t.Errorf("Cover of %s: %v, %d", text(f), l, e)
		}
	}
}

func TestIsCover(t *testing.T) {
	for _, f := range small(1) { // all lists of up to two
		wantIsCover(t, f)
		for i := range 256 {
			p, q := [2]int{i&3 - 1, i>>2&3 - 1}, [2]int{i>>4&3 - 1, i>>6&3 - 1}
			wantIsCover(t, f, p)
			wantIsCover(t, f, p, q)
		}
	}
	s := chance.Source(753)
	for _, f := range functions(754, 6, 200) {
		var l [][2]int // all implicants
		for m := range f {
			for v := range m + 1 {
				if isImplicant(f, m, v) {
					l = append(l, [2]int{m, v})
				}
			}
		}
		wantIsCover(t, f, l...)
		if !isCover(f, l) {
			t.Errorf("all implicants of %s are no cover", text(f))
		}
		for range 10 {
			one := [2]int{s.From(-1, len(f)), s.From(-1, len(f))}
			wantIsCover(t, f, one)
			wantIsCover(t, f, append([][2]int{one}, l...)...)
			if len(l) == 0 {
				continue
			}
			i, j := s.Below(len(l)), s.Below(len(l))
			wantIsCover(t, f, slices.Delete(slices.Clone(l), i, i+1)...)
			wantIsCover(t, f, slices.Insert(slices.Clone(l), i, l[j])...)
			wantIsCover(t, f, slices.Insert(slices.Clone(l), i, one)...)
			wantIsCover(t, f, l[i], l[j])
			changed := slices.Clone(l)
			changed[i], changed[j] = changed[j], changed[i]
			wantIsCover(t, f, changed...)
			changed = slices.Clone(l)
			changed[i][s.Below(2)] = s.From(-1, len(f))
			wantIsCover(t, f, changed...)
			changed[j] = [2]int{len(f) + l[j][0], l[j][1]}
			wantIsCover(t, f, changed...)
		}
		var some [][2]int
		for _, p := range l {
			if s.Below(3) == 0 {
				some = append(some, p)
			}
		}
		wantIsCover(t, f, some...)
		most := where(width(f), func(int) bool { return true })
		most[s.Below(len(f))] = false
		wantIsCover(t, most, l...)
	}
}

func TestKnownCovers(t *testing.T) {
	majority := table("00010111")
	for _, x := range []struct {
		f    string
		l    [][2]int
		want bool
	}{
		{"0", nil, true}, {"0", [][2]int{{0, 0}}, false}, {"1", nil, false}, {"1", [][2]int{}, false}, {"1", [][2]int{{0, 0}}, true}, {"1", [][2]int{{0, 0}, {0, 0}}, false}, {"1", [][2]int{{0, 1}}, false}, {"1", [][2]int{{1, 0}}, false},
		{"11", [][2]int{{0, 0}}, true}, {"11", [][2]int{{1, 0}, {1, 1}}, true}, {"11", [][2]int{{1, 1}, {1, 0}}, false}, {"11", [][2]int{{0, 0}, {1, 0}}, true}, {"11", [][2]int{{1, 0}}, false}, {"11", [][2]int{{2, 0}}, false}, {"11", [][2]int{{1, 0}, {1, 1}, {2, 0}}, false}, {"11", [][2]int{{0, 0}, {1, 2}}, false}, {"11", [][2]int{{0, 0}, {1, -1}}, false}, {"11", [][2]int{{-1, 0}, {0, 0}}, false}, {"11", [][2]int{{0, -1}, {0, 0}}, false},
		{"0111", [][2]int{{1, 1}, {2, 2}}, true}, {"0111", [][2]int{{1, 1}, {3, 2}}, true}, {"0111", [][2]int{{1, 1}, {2, 0}}, false}, {"0111", [][2]int{{2, 2}, {3, 1}}, true},
	} {
		if is := cube.IsCover(table(x.f), x.l); is != x.want {
			t.Errorf("IsCover of %s and %v: %t", x.f, x.l, is)
		}
	}
	long := make([][2]int, 1_000_000)
	for i := range long {
		long[i] = [2]int{i / 1000, i % 1000}
	}
	all := where(6, func(int) bool { return true })
	if cube.IsCover(majority, long) || cube.IsCover(all, long) || cube.IsCover(all, slices.Repeat([][2]int{{0, 0}}, 1_000_000)) {
		t.Errorf("IsCover of long lists")
	}
	for _, n := range extremes {
		for _, f := range [][]bool{majority, all, make([]bool, 4)} {
			for _, p := range [][2]int{{n, 0}, {0, n}, {n, n}, {7, n}, {63, n}, {n, 7}} {
				wantIsCover(t, f, p)
				wantIsCover(t, f, [2]int{0, 0}, p)
				wantIsCover(t, f, p, [2]int{0, 0})
			}
		}
	}
}

// R4: the table is left as it is, results are new.
func TestCoversAreNew(t *testing.T) {
	for _, f := range functions(755, 4, 50) {
		spare := append(slices.Clone(f), true, false)
		part := spare[:len(f)]
		l, cover := got(t, "Primes", part, cube.Primes), got(t, "Cover", part, cube.Cover)
		before := slices.Clone(cover)
		clear(l)
		if !slices.Equal(cover, before) {
			t.Errorf("Cover of %s shares memory with Primes", text(f))
		}
		clear(cover)
		if !slices.Equal(got(t, "Primes", part, cube.Primes), primesOf(f)) || !isCover(f, got(t, "Cover", part, cube.Cover)) || text(spare) != text(f)+"10" {
			t.Errorf("Primes and Cover of %s, later", text(f))
		}
	}
}
