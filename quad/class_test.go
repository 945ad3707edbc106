package quad_test

import (
	"cmp"
	"fmt"
	"math"
	"slices"
	"testing"

	"stadda/api"
	"stadda/quad"
)

// P4.3: Class, Unit, Product, Order.

func TestNoDiscriminants(t *testing.T) {
	for _, d := range []int64{0, -1, -2, 1, 4, 5, 20_000, -5, -6, -9, -10, -19_997, -19_998, -20_001, -20_002, -20_003, -20_004, -4_000_000, math.MinInt64, math.MaxInt64, -1 << 32, -1<<32 - 3} {
		l, e := quad.Class(d)
		failList(t, fmt.Sprint("Class of ", d), l, e, api.ErrDisc)
		u, e := quad.Unit(d)
		fail(t, fmt.Sprint("Unit of ", d), u, e, api.ErrDisc)
	}
	for d := int64(-20_010); d <= 10; d++ {
		_, e := quad.Class(d)
		_, h := quad.Unit(d)
		if (e == api.OK) != isDisc(d) || (h == api.OK) != isDisc(d) {
			t.Errorf("Class and Unit of %d: %d, %d", d, e, h)
		}
	}
}

// classList is the class list of d, by the definition.
func classList(d int64) []quad.Form {
	var list []quad.Form
	for b := -d; b >= d; b-- {
		if 3*b*b > -d || (b*b-d)%4 != 0 {
			continue
		}
		product := (b*b - d) / 4
		for a := int64(1); a*a <= product; a++ {
			if f := (quad.Form{a, b, product / a}); product%a == 0 && isReduced(f) && primitive(f) {
				list = append(list, f)
			}
		}
	}
	slices.SortFunc(list, func(f, g quad.Form) int { return slices.Compare(f[:], g[:]) })
	return list
}

func TestClassLists(t *testing.T) {
	for i, d := range discs() {
		if i > 400 && i%23 != 0 && d < -3 && d > -19_900 {
			continue
		}
		want := classList(d)
		if l := classes(t, d); !slices.Equal(l, want) {
			t.Errorf("Class of %d: %v instead of %v", d, l, want)
		}
	}
	for _, d := range []int64{-3, -4, -7, -8, -11, -12, -16, -19, -27, -28, -43, -67, -163} { // all with one class
		if l := classes(t, d); len(l) != 1 {
			t.Errorf("Class of %d: %v", d, l)
		}
	}
	one := 0
	for _, d := range discs() {
		if len(classes(t, d)) == 1 {
			one++
		}
	}
	if one != 13 {
		t.Errorf("%d discriminants with one class", one)
	}
}

// leastPrimes are the least primes that divide the numbers up to n.
func leastPrimes(n int64) []int64 {
	least := make([]int64, n+1)
	for p := int64(2); p <= n; p++ {
		if least[p] > 0 {
			continue
		}
		for m := p; m <= n; m += p {
			if least[m] == 0 {
				least[m] = p
			}
		}
	}
	return least
}

// The number of classes by Dirichlet's sum: h = w / (2 |d|) times the sum of k times the symbol of d at k, for discriminants that are no multiple of another by a square.
func TestNumberOfClasses(t *testing.T) {
	least := leastPrimes(20_000)
	symbols := make([]int64, 20_001)
	for i, d := range discs() {
		if i%9 != 0 && d > -19_900 || !fundamental(d) {
			continue
		}
		sum := int64(0)
		symbols[1] = 1
		for k := int64(1); k <= -d; k++ {
			if p := least[k]; k > 1 && p == k {
				symbols[k] = int64(symbolAt(d, p))
			} else if k > 1 {
				symbols[k] = symbols[p] * symbols[k/p]
			}
			sum += k * symbols[k]
		}
		w, _ := quad.Selves(unit(t, d))
		if h := int64(len(classes(t, d))); -2*d*h != -int64(w)*sum {
			t.Errorf("Class of %d: %d classes, the sum is %d", d, h, sum)
		}
	}
}

func fundamental(d int64) bool {
	for q := int64(2); q*q <= -d; q++ {
		if d%(q*q) == 0 && isDisc(d/(q*q)) {
			return false
		}
	}
	return true
}

func TestUnits(t *testing.T) {
	for _, d := range discs() {
		u := unit(t, d)
		if !isReduced(u) || disc(u) != d || u[0] != 1 {
			t.Errorf("Unit of %d: %v", d, u)
		}
	}
	for _, x := range []struct {
		d    int64
		want quad.Form
	}{{-3, quad.Form{1, 1, 1}}, {-4, quad.Form{1, 0, 1}}, {-7, quad.Form{1, 1, 2}}, {-20_000, quad.Form{1, 0, 5000}}, {-19_999, quad.Form{1, 1, 5000}}} {
		if u := unit(t, x.d); u != x.want {
			t.Errorf("Unit of %d: %v", x.d, u)
		}
	}
}

func TestProductErrors(t *testing.T) {
	for _, x := range []struct {
		f, g quad.Form
		want api.Errno
	}{
		{quad.Form{2, 1, 3}, quad.Form{1, 0, 1}, api.ErrDisc}, {quad.Form{1, 0, 1}, quad.Form{2, 1, 3}, api.ErrDisc},
		{quad.Form{2, 2, 2}, quad.Form{1, 0, 1}, api.ErrDisc}, {quad.Form{1, 0, 1}, quad.Form{2, 2, 2}, api.ErrDisc},
		{quad.Form{2, 2, 500_001}, quad.Form{2, 2, 500_001}, api.ErrDisc}, {quad.Form{2, 1, 500_001}, quad.Form{2, 1, 500_001}, api.ErrDisc}, {quad.Form{3, 3, 333_337}, quad.Form{3, 3, 333_337}, api.ErrDisc},
		{quad.Form{1_000_000, 0, 1_000_000}, quad.Form{1_000_000, 0, 1_000_000}, api.ErrDisc}, {quad.Form{1_000_000, 1, 1_000_000}, quad.Form{1_000_000, 1, 1_000_000}, api.ErrDisc},
		{quad.Form{2, 2, 2}, quad.Form{1, 0, 3}, api.ErrMulti}, {quad.Form{1, 0, 3}, quad.Form{2, 2, 2}, api.ErrMulti}, {quad.Form{2, 2, 2}, quad.Form{2, 2, 2}, api.ErrMulti},
		{quad.Form{2, 0, 500_000}, quad.Form{1, 0, 1_000_000}, api.ErrMulti}, {quad.Form{1, 0, 1_000_000}, quad.Form{2, 0, 500_000}, api.ErrMulti}, {quad.Form{6, 3, 9}, quad.Form{6, -3, 9}, api.ErrMulti},
	} {
		h, e := quad.Product(x.f, x.g)
		fail(t, fmt.Sprint("Product of ", x.f, " and ", x.g), h, e, x.want)
	}
	for _, x := range [][3]quad.Form{
		{{1, 0, 1_000_000}, {1, 0, 1_000_000}, {1, 0, 1_000_000}}, {{64, 0, 15_625}, {64, 0, 15_625}, {1, 0, 1_000_000}}, {{15_625, 0, 64}, {1_000_000, 0, 1}, {64, 0, 15_625}},
		{{1, 1, 1_000_000}, {1, -1, 1_000_000}, {1, 1, 1_000_000}},
	} {
		if h := product(t, x[0], x[1]); h != x[2] {
			t.Errorf("Product of %v and %v: %v instead of %v", x[0], x[1], h, x[2])
		}
	}
}

// smallChanges are the changes with numbers up to most, those with the lesser sum first.
func smallChanges(most int64) []matrix {
	var list []matrix
	side := 2*most + 1
	for i := range side * side * side * side {
		m := matrix{{i%side - most, i/side%side - most}, {i/side/side%side - most, i/side/side/side - most}}
		if m[0][0]*m[1][1]-m[0][1]*m[1][0] == 1 {
			list = append(list, m)
		}
	}
	slices.SortStableFunc(list, func(m, n matrix) int {
		return cmp.Compare(abs(m[0][0])+abs(m[0][1])+abs(m[1][0])+abs(m[1][1]), abs(n[0][0])+abs(n[0][1])+abs(n[1][0])+abs(n[1][1]))
	})
	return list
}

// united is the form of the definition for two forms of which it speaks; false if it does not speak of them, or with numbers of more than 10^9.
func united(f, g quad.Form) (quad.Form, bool) {
	d, a := disc(f), f[0]*g[0]
	if divisor(f[0], g[0], (f[1]+g[1])/2) > 1 || a > 1_000_000_000 {
		return quad.Form{}, false
	}
	for b := f[1]; ; b += 2 * f[0] {
		if (b-g[1])%(2*g[0]) == 0 && (b*b-d)%(4*a) == 0 {
			return quad.Form{a, b, (b*b - d) / (4 * a)}, true
		}
	}
}

// wantProduct checks a product by the definition, for the first pairs of changed forms of which it speaks.
func wantProduct(t *testing.T, f, g quad.Form, changes []matrix, pairs int) {
	t.Helper()
	h := product(t, f, g)
	found := 0
	for i := range len(changes) * len(changes) {
		p, _ := moved(f, changes[i%len(changes)])
		q, _ := moved(g, changes[i/len(changes)])
		r, ok := united(p, q)
		if !ok {
			continue
		}
		if simplest(r) != h {
			t.Errorf("Product of %v and %v: %v instead of %v, from %v and %v", f, g, h, simplest(r), p, q)
		}
		found++
		if found == pairs {
			return
		}
	}
	if found == 0 {
		t.Errorf("no forms like %v and %v whose product the definition tells", f, g)
	}
}

func TestAllProducts(t *testing.T) {
	changes := smallChanges(1)
	for _, d := range []int64{-3, -4, -12, -16, -20, -23, -39, -44, -47, -56, -63, -71, -84, -96, -100, -108, -144, -195, -420, -675} {
		l := classes(t, d)
		for _, f := range l {
			for _, g := range l {
				wantProduct(t, f, g, changes, 12)
			}
		}
	}
}

func TestProducts(t *testing.T) {
	s := source{431}
	changes := smallChanges(2)
	for range 250 {
		least := []int64{-300, -20_000, -4_000_000}[s.Below(3)]
		f := s.primitiveForm(least)
		g := f
		for range 5 { // another class of the discriminant: by a value of f, if it has the form for it
			a := s.number(1, 60)
			for b := -a; b < a; b++ {
				h := quad.Form{a, b, (b*b - disc(f)) / (4 * a)}
				if (b*b-disc(f))%(4*a) == 0 && h[2] <= 1_000_000 && primitive(h) {
					g = h
				}
			}
		}
		wantProduct(t, f, g, changes, 3)
		if h := product(t, s.like(f, 1_000_000), s.like(g, 1_000_000)); h != product(t, f, g) {
			t.Errorf("Product of forms like %v and %v: %v instead of %v", f, g, h, product(t, f, g))
		}
	}
}

// Forms for which many first choices fail: all of a, c and a + b + c have common divisors with the a of the other one.
func TestProductsWithManyCommonDivisors(t *testing.T) {
	s := source{432}
	changes := smallChanges(2)
	for _, f := range []quad.Form{{1050, 1049, 1060}, {1050, 997, 1160}, {1110, -1109, 1142}, {1140, 1133, 1156}} { // the first value that fits is the one at 9, 1
		wantProduct(t, f, f, changes, 3)
		wantProduct(t, f, quad.Form{f[0], -f[1], f[2]}, changes, 3)
	}
	for range 60 {
		a := []int64{6, 30, 42, 66, 210, 330}[s.Below(6)]
		for {
			c := a * s.number(1, 1_000_000/a)
			b := s.number(-a, a)
			f := quad.Form{a, b, c}
			if primitive(f) && disc(f) >= -4_000_000 && disc(f) < 0 {
				wantProduct(t, f, f, changes, 1)
				wantProduct(t, f, quad.Form{a, -b, c}, changes, 1)
				break
			}
		}
	}
}

func TestOrderErrors(t *testing.T) {
	for _, x := range []struct {
		f    quad.Form
		want api.Errno
	}{
		{quad.Form{2, 2, 2}, api.ErrMulti}, {quad.Form{1_000_000, 0, 1_000_000}, api.ErrMulti}, {quad.Form{2, 0, 5002}, api.ErrMulti}, {quad.Form{3, 3, 3000}, api.ErrMulti},
		{quad.Form{1, 1, 5001}, api.ErrDisc}, {quad.Form{1, 0, 5001}, api.ErrDisc}, {quad.Form{1_000_000, 1, 1_000_000}, api.ErrDisc},
	} {
		n, e := quad.Order(x.f)
		fail(t, fmt.Sprint("Order of ", x.f), n, e, x.want)
		l, e := quad.Characters(x.f)
		failList(t, fmt.Sprint("Characters of ", x.f), l, e, x.want)
	}
	for _, f := range []quad.Form{{1, 0, 5000}, {1, 1, 5000}, {1_000_000, 1998, 1}, {1, 0, 1}, {1, 1, 1}} {
		if n, e := quad.Order(f); n != 1 || e != api.OK {
			t.Errorf("Order of %v: %d, %d", f, n, e)
		}
	}
}

// orderOf is the order of f, by products of the definition.
func orderOf(f quad.Form, changes []matrix) int {
	power := simplest(f)
	n := 1
	for ; power[0] != 1; n++ {
		power = simplest(firstUnited(power, f, changes))
	}
	return n
}

func firstUnited(f, g quad.Form, changes []matrix) quad.Form {
	for _, m := range changes {
		h, _ := moved(g, m)
		if r, ok := united(f, h); ok {
			return r
		}
	}
	panic("no form of which the definition speaks")
}

func TestOrders(t *testing.T) {
	changes := smallChanges(4)
	for _, d := range []int64{-3, -4, -15, -20, -23, -47, -71, -84, -96, -231, -420, -500, -1155, -1848, -3315, -3896, -5460, -9796, -15_015, -19_991, -19_999, -20_000} {
		l := classes(t, d)
		for i, f := range l {
			if i > 40 {
				break
			}
			if n, e := quad.Order(f); n != orderOf(f, changes) || e != api.OK {
				t.Errorf("Order of %v: %d, %d instead of %d", f, n, e, orderOf(f, changes))
			}
		}
	}
	s := source{433}
	for range 100 {
		f := s.primitiveForm(-20_000)
		want := orderOf(f, changes)
		for range 3 {
			f = s.like(f, 1_000_000)
			if n, e := quad.Order(f); n != want || e != api.OK {
				t.Errorf("Order of %v: %d, %d instead of %d", f, n, e, want)
			}
		}
	}
}

// R4: what a call returned is the caller's.
func TestClassListsAreNew(t *testing.T) {
	l := classes(t, -23)
	l[0] = quad.Form{}
	_ = append(l[:1], quad.Form{})
	if l := classes(t, -23); !slices.Equal(l, classList(-23)) {
		t.Errorf("Class: %v", l)
	}
}
