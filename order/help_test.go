package order_test

import (
	"math"
	"slices"
	"strings"
	"testing"

	"stadda/api"
	"stadda/chance"
	"stadda/order"
)

// extremes are numbers outside of all ranges of this layer.
var extremes = []int{math.MinInt, math.MinInt + 1, math.MinInt / 2, math.MinInt32, -64, -12, -2, -1, 12, 13, 63, 64, 65, 128, 1 << 31, 1 << 32, 1<<32 + 1, 1 << 62, math.MaxInt - 1, math.MaxInt}

// where is the table of n elements in which x is at most y if x = y, or if is says so.
func where(n int, is func(x, y int) bool) order.Table {
	p := make(order.Table, n)
	for x := range p {
		p[x] = make([]bool, n)
		for y := range p[x] {
			p[x][y] = x == y || is(x, y)
		}
	}
	return p
}

// text is a table as rows of digits.
func text(p order.Table) string {
	var s strings.Builder
	for x, row := range p {
		if x > 0 {
			s.WriteByte(' ')
		}
		for _, is := range row {
			digit := byte('0')
			if is {
				digit = '1'
			}
			s.WriteByte(digit)
		}
	}
	return s.String()
}

// table is the table of such rows.
func table(s string) order.Table {
	var p order.Table
	for row := range strings.FieldsSeq(s) {
		var list []bool
		for _, c := range row {
			list = append(list, c == '1')
		}
		p = append(p, list)
	}
	return p
}

// isOrder tells whether a square table is an order by the definition.
func isOrder(p order.Table) bool {
	for x := range p {
		for y := range p {
			if x == y && !p[x][y] || x != y && p[x][y] && p[y][x] {
				return false
			}
			for z := range p {
				if p[x][y] && p[y][z] && !p[x][z] {
					return false
				}
			}
		}
	}
	return true
}

// closed is the table with what follows from it, as long as anything does.
func closed(p order.Table) order.Table {
	p = where(len(p), func(x, y int) bool { return p[x][y] })
	for changed := true; changed; {
		changed = false
		for x := range p {
			for y := range p {
				for z := range p {
					if p[x][y] && p[y][z] && !p[x][z] {
						p[x][z], changed = true, true
					}
				}
			}
		}
	}
	return p
}

// turned is the table turned round.
func turned(p order.Table) order.Table {
	return where(len(p), func(x, y int) bool { return p[y][x] })
}

// relabeled is the table whose element at is the element list[at] of p.
func relabeled(p order.Table, list []int) order.Table {
	return where(len(list), func(x, y int) bool { return p[list[x]][list[y]] })
}

// shuffled are the numbers from 0 to n - 1 in any order.
func shuffled(s *chance.Source, n int) []int {
	list := make([]int, n)
	for i := range list {
		k := s.Below(i + 1)
		list[i] = list[k]
		list[k] = i
	}
	return list
}

// withOneMore are all orders that have p and one more element, which is the last.
func withOneMore(p order.Table) []order.Table {
	var list []order.Table
	n := len(p)
	for down := range 1 << n {
		for up := range 1 << n {
			q := where(n+1, func(x, y int) bool {
				return x < n && y < n && p[x][y] || y == n && down>>x&1 == 1 || x == n && up>>y&1 == 1
			})
			if isOrder(q) {
				list = append(list, q)
			}
		}
	}
	return list
}

// all are all orders of n elements.
func all(n int) []order.Table {
	if n == 0 {
		return []order.Table{nil}
	}
	var list []order.Table
	for _, p := range all(n - 1) {
		list = append(list, withOneMore(p)...)
	}
	return list
}

// small are all orders of up to n elements.
func small(n int) []order.Table {
	var list []order.Table
	for i := 1; i <= n; i++ {
		list = append(list, all(i)...)
	}
	return list
}

// chain are n elements of which each is below the next one.
func chain(n int) order.Table {
	return where(n, func(x, y int) bool { return x < y })
}

// antichain are n elements none of which is below another one.
func antichain(n int) order.Table {
	return where(n, func(x, y int) bool { return false })
}

// subsets are the sets of n elements.
func subsets(n int) order.Table {
	return where(1<<n, func(x, y int) bool { return x|y == y })
}

// numbers is the order in which a number is at most those that it divides.
func numbers(list ...int) order.Table {
	return where(len(list), func(x, y int) bool { return list[y]%list[x] == 0 })
}

// divisors is the order of the divisors of n.
func divisors(n int) order.Table {
	return numbers(divisorList(n)...)
}

// divisorList are the divisors of n.
func divisorList(n int) []int {
	var list []int
	for d := range n {
		if n%(d+1) == 0 {
			list = append(list, d+1)
		}
	}
	return list
}

// grid is the order of the pairs of numbers below width and below height.
func grid(width, height int) order.Table {
	return where(width*height, func(x, y int) bool { return x/height <= y/height && x%height <= y%height })
}

// layers is the order in which the elements of each layer are below all of the later ones.
func layers(sizes ...int) order.Table {
	var layer []int
	for i, size := range sizes {
		layer = append(layer, slices.Repeat([]int{i}, size)...)
	}
	return where(len(layer), func(x, y int) bool { return layer[x] < layer[y] })
}

// fence is 0 < 1 > 2 < 3 .. of n elements.
func fence(n int) order.Table {
	return where(n, func(x, y int) bool { return x%2 == 0 && (x == y-1 || x == y+1) })
}

// crown are n elements each of which is below all but one of n others.
func crown(n int) order.Table {
	return where(2*n, func(x, y int) bool { return x < n && y >= n && x != y-n })
}

// tree is the order in which 0 is least, and x is right above (x - 1) / width.
func tree(n, width int) order.Table {
	return closed(where(n, func(x, y int) bool { return y > 0 && x == (y-1)/width }))
}

// pentagon is 0 < 1 < 2 < 4, 0 < 3 < 4, where the way on the left has so many elements and that on the right, too.
func pentagon(left, right int) order.Table {
	n := left + right + 2
	return where(n, func(x, y int) bool {
		return x == 0 || y == n-1 || x < y && (y <= left || x > left)
	})
}

// diamond is an order of n elements none of which is below another one, with one below all and one above all.
func diamond(n int) order.Table {
	return layers(1, n, 1)
}

// apart is the order of the elements of p and of those of q, none of which is below one of the other ones.
func apart(p, q order.Table) order.Table {
	return where(len(p)+len(q), func(x, y int) bool {
		if x >= len(p) && y >= len(p) {
			return q[x-len(p)][y-len(p)]
		}
		return x < len(p) && y < len(p) && p[x][y]
	})
}

// known are orders of up to 12 elements of which much is known.
func known() []order.Table {
	var list []order.Table
	for n := 1; n <= 12; n++ {
		list = append(list, chain(n), antichain(n), fence(n), turned(fence(n)), tree(n, 2), turned(tree(n, 3)))
	}
	for n := 1; n <= 6; n++ {
		list = append(list, crown(n), layers(n, n), layers(n, 1, n-1), apart(chain(n), chain(7-n)), apart(chain(n), antichain(n)), grid(2, n))
	}
	for n := 2; n <= 5; n++ {
		list = append(list, diamond(n), diamond(2*n), pentagon(n, 1), pentagon(2, n), pentagon(n, n), layers(1, n, 1, n-1, 1), layers(1, n, n, 1))
	}
	for _, n := range []int{12, 16, 30, 36, 60, 72, 90, 96, 48} {
		list = append(list, divisors(n))
	}
	return append(list, subsets(1), subsets(2), subsets(3), grid(3, 3), grid(3, 4), layers(2, 2, 2), layers(2, 2, 2, 2, 2, 2), layers(3, 3, 3, 3), layers(1, 2, 2, 1), numbers(2, 3, 4, 5, 6, 7, 8, 9, 10, 11, 12), apart(pentagon(2, 1), diamond(3)))
}

// someOf is an order of n elements in which about one of so many pairs is given.
func someOf(s *chance.Source, n, every int) order.Table {
	p := antichain(n)
	list := shuffled(s, n)
	for i := range n {
		for k := range i {
			p[list[k]][list[i]] = s.Below(every) == 0
		}
	}
	return closed(p)
}

// some are orders of so many elements.
func some(s chance.Source, from, to, count int) []order.Table {
	var list []order.Table
	for range count {
		list = append(list, someOf(&s, s.From(from, to), s.From(1, 7)))
	}
	return list
}

// orders are all orders of up to four elements, known ones, and others of up to 12.
func orders(s chance.Source, count int) []order.Table {
	return slices.Concat(small(4), known(), some(s, 5, 12, count))
}

// ordered is the order of sets in which one is at most another one if it is within it.
func ordered(sets []int) order.Table {
	return where(len(sets), func(x, y int) bool { return isWithin(sets[x], sets[y]) })
}

// isWithin tells whether all elements of a are in b.
func isWithin(a, b int) bool {
	return a|b == b
}

// someSets are up to 12 sets: all common parts of some of them, and the whole.
func someSets(s *chance.Source) []int {
	n := s.From(2, 6)
	sets := []int{1<<n - 1}
	for range s.Below(20) {
		next := s.Below(1 << n)
		more := []int{next}
		for _, set := range sets {
			more = append(more, set&next)
		}
		more = sorted(append(more, sets...))
		if len(more) <= 12 {
			sets = more
		}
	}
	return sets
}

// someIdeals are the ideals of an order that has at most 12 of them.
func someIdeals(s *chance.Source) []int {
	for {
		if list := idealsOf(someOf(s, s.From(1, 11), s.From(1, 3))); len(list) <= 12 {
			return list
		}
	}
}

// lattices are all lattices of up to five elements, known ones, and others of up to 12.
func lattices(s chance.Source, count int) []order.Table {
	var list []order.Table
	for _, p := range append(small(5), known()...) {
		if isLattice(p) {
			list = append(list, p)
		}
	}
	for range count {
		p := ordered(someSets(&s))
		q := ordered(someIdeals(&s))
		list = append(list, relabeled(p, shuffled(&s, len(p))), turned(p), relabeled(q, shuffled(&s, len(q))))
	}
	return list
}

// noLattices are orders that are no lattices.
func noLattices(s chance.Source, count int) []order.Table {
	return slices.DeleteFunc(orders(s, count), isLattice)
}

// noOrders are tables that are no orders.
func noOrders() []order.Table {
	list := []order.Table{nil, {}, {nil}, {{}}, {{false}}, {{true, true}}, {{true, false}}, {{true, false}, {false}}, {{true, false}, nil}, {{true, false}, {true}}, {{true}, {true, true}}, {{true, false}, {false, true, false}}, {{true, false}, {false, true}, {}}}
	list = append(list, make(order.Table, 12), make(order.Table, 13), chain(13), antichain(13), chain(14), antichain(64), chain(100), make(order.Table, 1<<20), order.Table{make([]bool, 1<<20)})
	for number := range 1 << 9 {
		p := make(order.Table, 3)
		for x := range p {
			p[x] = []bool{number>>(3*x)&1 == 1, number>>(3*x+1)&1 == 1, number>>(3*x+2)&1 == 1}
		}
		if !isOrder(p) {
			list = append(list, p)
		}
	}
	for _, p := range append(known(), some(901, 2, 12, 30)...) {
		last := len(p) - 1
		list = append(list, p[:last], append(slices.Clone(p), make([]bool, last+1)), append(slices.Clone(p[:last]), p[last][:last]), append(slices.Clone(p[:last]), append(slices.Clone(p[last]), false)))
		for x := range p {
			for y := range p {
				q := changed(p, x, y)
				if !isOrder(q) {
					list = append(list, q)
				}
			}
		}
	}
	return list
}

// changed is the table with another value at x, y.
func changed(p order.Table, x, y int) order.Table {
	q := slices.Clone(p)
	q[x] = slices.Clone(p[x])
	q[x][y] = !p[x][y]
	return q
}

// sorted are the numbers, rising, each once.
func sorted(list []int) []int {
	list = slices.Clone(list)
	slices.Sort(list)
	return slices.Compact(list)
}

// elements are those of a set.
func elements(set int) []int {
	var list []int
	for i := range 12 {
		if set>>i&1 == 1 {
			list = append(list, i)
		}
	}
	return list
}

// idealsOf are the ideals by the definition.
func idealsOf(p order.Table) []int {
	var list []int
	for set := range 1 << len(p) {
		is := true
		for _, y := range elements(set) {
			for x := range p {
				is = is && (!p[x][y] || set>>x&1 == 1)
			}
		}
		if is {
			list = append(list, set)
		}
	}
	return list
}

// joinOf is the join of two elements by the definition, or -1.
func joinOf(p order.Table, x, y int) int {
	var both []int
	for z := range p {
		if p[x][z] && p[y][z] {
			both = append(both, z)
		}
	}
	for _, z := range both {
		if !slices.ContainsFunc(both, func(other int) bool { return !p[z][other] }) {
			return z
		}
	}
	return -1
}

// meetOf is the meet of two elements by the definition, or -1.
func meetOf(p order.Table, x, y int) int {
	return joinOf(turned(p), x, y)
}

// isLattice tells whether an order is a lattice by the definition.
func isLattice(p order.Table) bool {
	for x := range p {
		for y := range p {
			if joinOf(p, x, y) < 0 || meetOf(p, x, y) < 0 {
				return false
			}
		}
	}
	return true
}

// rightBelow tells whether x is right below y by the definition.
func rightBelow(p order.Table, x, y int) bool {
	for z := range p {
		if z != x && z != y && p[x][z] && p[z][y] {
			return false
		}
	}
	return x != y && p[x][y]
}

// least is the element of a lattice that is at most all others.
func least(p order.Table) int {
	return slices.IndexFunc(p, func(row []bool) bool { return !slices.Contains(row, false) })
}

// greatest is the element of a lattice that is at least all others.
func greatest(p order.Table) int {
	return least(turned(p))
}

// got is what a call returned with OK.
func got[T any](t *testing.T, name string, p order.Table, call func(order.Table) (T, api.Errno)) T {
	t.Helper()
	v, e := call(p)
	if e != api.OK {
		t.Fatalf("%s of %s: %d", name, text(p), e)
	}
	return v
}

// same tells whether two tables are the same.
func same(p, q order.Table) bool {
	return slices.EqualFunc(p, q, slices.Equal)
}
