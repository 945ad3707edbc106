package order_test

import (
	"fmt"
	"math"
	"slices"
	"testing"

	"stadda/api"
	"stadda/chance"
	"stadda/order"
)

// P9.2: Moebius, Sums, Differences, Chains, Euler, Linear.

// The numbers are the only ones with these sums.
func TestMoebius(t *testing.T) {
	for _, p := range orders(911, 300) {
		mu := got(t, "Moebius", p, order.Moebius)
		if len(mu) != len(p) {
			t.Fatalf("Moebius of %s: %v", text(p), mu)
		}
		for x, row := range mu {
			for y := range p {
				sum, want := 0, 0
				for z := range p {
					if p[x][z] && p[z][y] {
						sum += row[z]
					}
				}
				if x == y {
					want = 1
				}
				if len(row) != len(p) || sum != want || !p[x][y] && row[y] != 0 {
					t.Errorf("Moebius of %s: %v", text(p), mu)
				}
			}
		}
	}
}

// squarefree is Moebius's number of n.
func squarefree(n int) int {
	mu := 1
	for p := 2; n > 1; p++ {
		if n%p == 0 {
			n /= p
			mu = -mu
		}
		if n%p == 0 {
			return 0
		}
	}
	return mu
}

func TestKnownMoebius(t *testing.T) {
	for _, n := range []int{1, 2, 12, 30, 36, 60, 72, 90, 96} {
		list := divisorList(n)
		mu := got(t, "Moebius", divisors(n), order.Moebius)
		for x := range list {
			for y := range list {
				want := 0
				if list[y]%list[x] == 0 {
					want = squarefree(list[y] / list[x])
				}
				if mu[x][y] != want {
					t.Errorf("Moebius of the divisors of %d at %d, %d: %d", n, list[x], list[y], mu[x][y])
				}
			}
		}
	}
	for _, x := range []struct {
		p    order.Table
		want int // from the first to the last element
	}{
		{chain(1), 1}, {chain(2), -1}, {chain(3), 0}, {chain(12), 0}, {antichain(2), 0}, {subsets(3), -1}, {pentagon(2, 1), 1}, {diamond(2), 1}, {diamond(3), 2}, {diamond(10), 9}, {layers(1, 5, 5, 1), -16}, {layers(1, 3, 3, 4, 1), 12}, {layers(1, 2, 2, 2, 2, 1), -1}, {layers(1, 2, 2, 2, 2, 2, 1), 1},
	} {
		if mu := got(t, "Moebius", x.p, order.Moebius); mu[0][len(x.p)-1] != x.want {
			t.Errorf("Moebius of %s: %v", text(x.p), mu)
		}
	}
	if mu := got(t, "Moebius", table("111 010 001"), order.Moebius); fmt.Sprint(mu) != "[[1 -1 -1] [0 1 0] [0 0 1]]" {
		t.Errorf("Moebius: %v", mu)
	}
}

// sumsOf are the sums by the definition.
func sumsOf(p order.Table, f []int64) []int64 {
	g := make([]int64, len(p))
	for y := range p {
		for x := range p {
			if p[x][y] {
				g[y] += f[x]
			}
		}
	}
	return g
}

// someValues are n numbers from -10^9 to 10^9.
func someValues(s *chance.Source, n int) []int64 {
	list := make([]int64, n)
	for i := range list {
		most := []int{1, 10, 1_000_000_000}[s.Below(3)]
		list[i] = int64(s.From(-most, most))
		if s.Below(5) == 0 {
			list[i] = []int64{-1_000_000_000, 1_000_000_000}[s.Below(2)]
		}
	}
	return list
}

func TestSumsAndDifferences(t *testing.T) {
	s := chance.Source(912)
	for _, p := range orders(913, 500) {
		f := someValues(&s, len(p))
		if g, e := order.Sums(p, f); !slices.Equal(g, sumsOf(p, f)) || e != api.OK {
			t.Errorf("Sums of %s, %v: %v, %d", text(p), f, g, e)
		}
		if d, e := order.Differences(p, f); len(d) != len(p) || !slices.Equal(sumsOf(p, d), f) || e != api.OK {
			t.Errorf("Differences of %s, %v: %v, %d", text(p), f, d, e)
		}
	}
}

func TestKnownSums(t *testing.T) {
	for _, x := range []struct {
		p    order.Table
		f, g []int64
	}{
		{chain(1), []int64{7}, []int64{7}},
		{chain(4), []int64{1, 1, 1, 1}, []int64{1, 2, 3, 4}},
		{turned(chain(3)), []int64{1, 2, 3}, []int64{6, 5, 3}},
		{antichain(3), []int64{4, 5, 6}, []int64{4, 5, 6}},
		{divisors(12), []int64{1, 2, 3, 4, 5, 6}, []int64{1, 3, 4, 7, 11, 21}},
		{divisors(12), []int64{1, 1, 2, 2, 2, 4}, []int64{1, 2, 3, 4, 6, 12}},
	} {
		if l, e := order.Sums(x.p, x.f); !slices.Equal(l, x.g) || e != api.OK {
			t.Errorf("Sums of %s, %v: %v, %d", text(x.p), x.f, l, e)
		}
		if l, e := order.Differences(x.p, x.g); !slices.Equal(l, x.f) || e != api.OK {
			t.Errorf("Differences of %s, %v: %v, %d", text(x.p), x.g, l, e)
		}
	}
	many := slices.Repeat([]int64{1_000_000_000}, 12)
	few := slices.Repeat([]int64{-1_000_000_000}, 12)
	if l, e := order.Sums(chain(12), many); e != api.OK || l[11] != 12_000_000_000 || l[0] != 1_000_000_000 {
		t.Errorf("Sums: %v, %d", l, e)
	}
	if l, e := order.Sums(chain(12), few); e != api.OK || l[11] != -12_000_000_000 {
		t.Errorf("Sums: %v, %d", l, e)
	}
	if l, e := order.Differences(diamond(10), append(many[:11:11], -1_000_000_000)); e != api.OK || l[11] != -2_000_000_000 {
		t.Errorf("Differences: %v, %d", l, e)
	}
	if l, e := order.Differences(diamond(10), slices.Concat(few[:1], many[:10], few[:1])); e != api.OK || l[1] != 2_000_000_000 || l[11] != -20_000_000_000 {
		t.Errorf("Differences: %v, %d", l, e)
	}
}

func TestNoSums(t *testing.T) {
	bad := []int64{1_000_000_001, -1_000_000_001, math.MaxInt64, math.MinInt64, 1 << 32, -1 << 32, 1 << 62}
	for name, call := range map[string]func(order.Table, []int64) ([]int64, api.Errno){"Sums": order.Sums, "Differences": order.Differences} {
		want := func(p order.Table, f []int64, want api.Errno) {
			t.Helper()
			if l, e := call(p, f); len(l) > 0 || e != want {
				t.Errorf("%s of %s, %d numbers: %v, %d instead of %d", name, text(p), len(f), l, e, want)
			}
		}
		for _, p := range known() {
			n := len(p)
			for _, length := range []int{0, n - 1, n + 1, 12*n + 1, 100, 1 << 16} {
				want(p, make([]int64, length), api.ErrShape)
				want(p, slices.Repeat([]int64{math.MaxInt64}, length), api.ErrShape)
			}
			for _, v := range bad {
				for i := range n {
					f := make([]int64, n)
					f[i] = v
					want(p, f, api.ErrArg)
					want(p, append(f, 0), api.ErrShape)
					want(p, f[1:], api.ErrShape)
				}
			}
		}
	}
}

// chainsOf are the numbers of chains from x to y by the definition: all of them are listed.
func chainsOf(p order.Table, x, y int) []int64 {
	var list []int64
	var extend func(z, length int)
	extend = func(z, length int) {
		if z == y {
			for len(list) <= length {
				list = append(list, 0)
			}
			list[length]++
		}
		for next := range p {
			if next != z && p[z][next] {
				extend(next, length+1)
			}
		}
	}
	extend(x, 0)
	return list
}

func TestChains(t *testing.T) {
	for _, p := range orders(914, 150) {
		for x := range p {
			for y := range p {
				if l, e := order.Chains(p, x, y); !slices.Equal(l, chainsOf(p, x, y)) || e != api.OK {
					t.Fatalf("Chains of %s, %d, %d: %v, %d instead of %v", text(p), x, y, l, e, chainsOf(p, x, y))
				}
			}
		}
	}
}

func TestKnownChains(t *testing.T) {
	for _, x := range []struct {
		p    order.Table
		x, y int
		want string
	}{
		{chain(1), 0, 0, "[1]"}, {chain(2), 0, 1, "[0 1]"}, {chain(2), 1, 0, "[]"}, {chain(5), 3, 3, "[1]"}, {antichain(2), 0, 1, "[]"}, {divisors(12), 0, 5, "[0 1 4 3]"}, {subsets(3), 0, 7, "[0 1 6 6]"}, {pentagon(2, 1), 0, 4, "[0 1 3 1]"}, {layers(1, 5, 5, 1), 0, 11, "[0 1 10 25]"}, {layers(1, 2, 2, 1), 0, 4, "[0 1 2]"}, {layers(1, 2, 2, 1), 3, 4, "[]"}, {chain(12), 0, 11, "[0 1 10 45 120 210 252 210 120 45 10 1]"}, {chain(12), 2, 5, "[0 1 2 1]"},
	} {
		if l, e := order.Chains(x.p, x.x, x.y); fmt.Sprint(l) != x.want || e != api.OK {
			t.Errorf("Chains of %s, %d, %d: %v, %d", text(x.p), x.x, x.y, l, e)
		}
	}
}

func TestNoChains(t *testing.T) {
	for _, p := range known() {
		for _, x := range append([]int{len(p), len(p) + 1}, extremes...) {
			for _, pair := range [][2]int{{0, x}, {x, 0}, {x, x}} {
				if l, e := order.Chains(p, pair[0], pair[1]); (x < 0 || x >= len(p)) && (len(l) > 0 || e != api.ErrArg) {
					t.Errorf("Chains of %s, %v: %v, %d", text(p), pair, l, e)
				}
			}
		}
	}
}

// eulerOf is Euler's number by the definition: of all sets.
func eulerOf(p order.Table) int64 {
	var odd, even int64
	for set := 1; set < 1<<len(p); set++ {
		list := elements(set)
		is := true
		for _, x := range list {
			for _, y := range list {
				is = is && (p[x][y] || p[y][x])
			}
		}
		switch {
		case is && len(list)%2 == 1:
			odd++
		case is:
			even++
		}
	}
	return odd - even
}

func TestEuler(t *testing.T) {
	for _, p := range orders(915, 150) {
		if n := got(t, "Euler", p, order.Euler); n != eulerOf(p) {
			t.Errorf("Euler of %s: %d instead of %d", text(p), n, eulerOf(p))
		}
	}
	for _, x := range []struct {
		p    order.Table
		want int64
	}{
		{chain(1), 1}, {chain(12), 1}, {antichain(2), 2}, {antichain(12), 12}, {layers(3, 3), -3}, {layers(2, 2, 2), 2}, {layers(2, 2, 2, 2, 2, 2), 0}, {layers(6, 6), -24}, {layers(4, 4, 4), 28}, {layers(3, 3, 3, 3), -15}, {crown(3), 0}, {crown(6), 12 - 30}, {tree(12, 2), 1}, {fence(11), 1},
	} {
		if n := got(t, "Euler", x.p, order.Euler); n != x.want {
			t.Errorf("Euler of %s: %d", text(x.p), n)
		}
	}
}

// linearOf is in how many orders the elements that are not listed can be listed, one after the other.
func linearOf(p order.Table, listed int) int64 {
	if listed == 1<<len(p)-1 {
		return 1
	}
	var n int64
	for x := range p {
		next := listed>>x&1 == 0
		for y := range p {
			next = next && (y == x || !p[y][x] || listed>>y&1 == 1)
		}
		if next {
			n += linearOf(p, listed|1<<x)
		}
	}
	return n
}

func TestLinear(t *testing.T) {
	list := slices.Concat(small(5), some(916, 5, 8, 150))
	for _, p := range known() {
		if len(p) <= 8 {
			list = append(list, p)
		}
	}
	for _, p := range list {
		if n := got(t, "Linear", p, order.Linear); n != linearOf(p, 0) {
			t.Errorf("Linear of %s: %d instead of %d", text(p), n, linearOf(p, 0))
		}
	}
}

func TestKnownLinear(t *testing.T) {
	factorial := int64(1)
	for n := 1; n <= 12; n++ {
		factorial *= int64(n)
		if many, one := got(t, "Linear", antichain(n), order.Linear), got(t, "Linear", chain(n), order.Linear); many != factorial || one != 1 {
			t.Errorf("Linear of %d elements: %d, %d", n, many, one)
		}
		if up, down := got(t, "Linear", fence(n), order.Linear), got(t, "Linear", turned(fence(n)), order.Linear); up != zigzag[n-1] || down != zigzag[n-1] {
			t.Errorf("Linear of a fence of %d: %d, %d", n, up, down)
		}
		hooks := int64(1) // all elements that are at least x count for it
		p := tree(n, 2)
		for _, row := range p {
			hook := int64(0)
			for _, is := range row {
				if is {
					hook++
				}
			}
			hooks *= hook
		}
		if count := got(t, "Linear", p, order.Linear); count*hooks != factorial {
			t.Errorf("Linear of a tree of %d: %d", n, count)
		}
	}
	for _, x := range []struct {
		p    order.Table
		want int64
	}{
		{grid(2, 6), 132}, {grid(6, 2), 132}, {grid(3, 4), 462}, {grid(3, 3), 42}, {subsets(3), 48}, {layers(6, 6), 720 * 720}, {apart(chain(6), chain(6)), 924}, {apart(chain(1), chain(11)), 12}, {apart(chain(4), apart(chain(4), chain(4))), 34650}, {diamond(10), 3628800}, {pentagon(2, 1), 3}, {divisors(12), 5},
	} {
		if n := got(t, "Linear", x.p, order.Linear); n != x.want {
			t.Errorf("Linear of %s: %d", text(x.p), n)
		}
	}
}

// zigzag are the numbers of Andre: lists of 1, 2, .. numbers that rise and fall in turn.
var zigzag = []int64{1, 1, 2, 5, 16, 61, 272, 1385, 7936, 50521, 353792, 2702765}
