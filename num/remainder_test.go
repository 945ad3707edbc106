package num_test

import (
	"math"
	"math/big"
	"testing"

	"stadda/api"
	"stadda/num"
)

// P1.3: remainders.

const greatestModulus = 1_000_000_000_000

var notModuli = []int64{math.MinInt64, -greatestModulus, -1, 0, greatestModulus + 1, math.MaxInt64}

// manyInt64s has the int64s at the ends, and others of all lengths.
func manyInt64s(n int) []int64 {
	s := source{8}
	l := append([]int64{greatestModulus, -greatestModulus, greatestModulus - 1}, int64s...)
	for range n {
		l = append(l, int64(s.Next())>>s.Below(64))
	}
	return l
}

// manyModuli has the least moduli, the greatest ones, and others of all lengths.
func manyModuli(n int) []int64 {
	s := source{9}
	l := []int64{1, 2, 3, 4, 5, 6, 7, 12, 1 << 39, 999_999_999_989, greatestModulus - 1, greatestModulus}
	for range n {
		l = append(l, 1+int64(s.Next()%greatestModulus)>>s.Below(40))
	}
	return l
}

func TestPower(t *testing.T) {
	s := source{10}
	for _, m := range manyModuli(40) {
		for _, a := range manyInt64s(10) {
			for _, n := range []int64{0, 1, 2, 3, int64(s.Below(1000)), int64(s.Next() >> 1), math.MaxInt64} {
				got, e := num.Power(a, n, m)
				want := new(big.Int).Exp(new(big.Int).Mod(big.NewInt(a), big.NewInt(m)), big.NewInt(n), big.NewInt(m)).Int64()
				if got != want || e != api.OK {
					t.Errorf("Power of %d, %d, %d: %d, %d instead of %d", a, n, m, got, e, want)
				}
			}
		}
	}
	for _, x := range [][4]int64{{2, 10, 1000, 24}, {0, 0, 7, 1}, {0, 0, 1, 0}, {5, 0, 1, 0}, {0, 5, 7, 0}, {-3, 3, 10, 3}} {
		if got, e := num.Power(x[0], x[1], x[2]); got != x[3] || e != api.OK {
			t.Errorf("Power of %d, %d, %d: %d, %d", x[0], x[1], x[2], got, e)
		}
	}
}

func TestPowerRefuses(t *testing.T) {
	for _, m := range notModuli {
		if got, e := num.Power(2, 3, m); got != 0 || e != api.ErrArg {
			t.Errorf("Power by %d: %d, %d", m, got, e)
		}
	}
	for _, n := range []int64{-1, math.MinInt64} {
		for _, m := range []int64{7, 0} {
			if got, e := num.Power(2, n, m); got != 0 || e != api.ErrArg {
				t.Errorf("Power to %d by %d: %d, %d", n, m, got, e)
			}
		}
	}
}

func TestInverse(t *testing.T) {
	for _, m := range manyModuli(200) {
		for _, a := range manyInt64s(40) {
			got, e := num.Inverse(a, m)
			rest := new(big.Int).Mod(big.NewInt(a), big.NewInt(m))
			if new(big.Int).GCD(nil, nil, rest, big.NewInt(m)).Int64() > 1 {
				if got != 0 || e != api.ErrNone {
					t.Errorf("Inverse of %d by %d: %d, %d", a, m, got, e)
				}
				continue
			}
			product := new(big.Int).Mul(big.NewInt(a), big.NewInt(got))
			product.Sub(product, big.NewInt(1)).Mod(product, big.NewInt(m))
			if got < 0 || got >= m || product.Sign() != 0 || e != api.OK {
				t.Errorf("Inverse of %d by %d: %d, %d", a, m, got, e)
			}
		}
	}
	if got, e := num.Inverse(3, 7); got != 5 || e != api.OK {
		t.Errorf("Inverse of 3 by 7: %d, %d", got, e)
	}
	for _, m := range notModuli {
		if got, e := num.Inverse(3, m); got != 0 || e != api.ErrArg {
			t.Errorf("Inverse by %d: %d, %d", m, got, e)
		}
	}
}

// TestMeetBySearch finds the least number, if there is one, by trying all of them.
func TestMeetBySearch(t *testing.T) {
	for m := range int64(13) {
		for n := range int64(13) {
			for a := int64(-14); a < 15; a++ {
				for b := int64(-14); b < 15; b += 3 {
					checkMeetBySearch(t, a, m, b, n)
				}
			}
		}
	}
}

func checkMeetBySearch(t *testing.T, a, m, b, n int64) {
	t.Helper()
	x, l, e := num.Meet(a, m, b, n)
	if m == 0 || n == 0 {
		if x != 0 || l != 0 || e != api.ErrArg {
			t.Errorf("Meet of %d, %d, %d, %d: %d, %d, %d", a, m, b, n, x, l, e)
		}
		return
	}
	least := max(m, n)
	for least%m != 0 || least%n != 0 {
		least++
	}
	for want := range least {
		if (want-a)%m == 0 && (want-b)%n == 0 {
			if x != want || l != least || e != api.OK {
				t.Errorf("Meet of %d, %d, %d, %d: %d, %d, %d instead of %d, %d", a, m, b, n, x, l, e, want, least)
			}
			return
		}
	}
	if x != 0 || l != 0 || e != api.ErrNone {
		t.Errorf("Meet of %d, %d, %d, %d: %d, %d, %d instead of none", a, m, b, n, x, l, e)
	}
}

func TestMeetWithLargeNumbers(t *testing.T) {
	count := [3]int{}
	for _, m := range manyModuli(40) {
		for _, n := range manyModuli(40) {
			for i, a := range manyInt64s(6) {
				b := manyInt64s(6)[(5*i+3)%len(manyInt64s(6))]
				if i%2 == 0 { // so that the rests can agree
					b = a
				}
				count[checkMeet(t, a, m, b, n)]++
			}
		}
	}
	if count[0] == 0 || count[1] == 0 || count[2] == 0 {
		t.Errorf("the cases are not all there: %v", count)
	}
}

// checkMeet returns 0 if there is such a number, 1 for ErrNone, 2 for ErrLong.
func checkMeet(t *testing.T, a, m, b, n int64) int {
	t.Helper()
	x, l, e := num.Meet(a, m, b, n)
	common := new(big.Int).GCD(nil, nil, big.NewInt(m), big.NewInt(n))
	least := new(big.Int).Mul(big.NewInt(m), big.NewInt(n))
	least.Div(least, common)
	apart := new(big.Int).Sub(big.NewInt(a), big.NewInt(b))
	want := api.OK
	switch {
	case least.Cmp(big.NewInt(greatestModulus)) > 0:
		want = api.ErrLong
	case apart.Mod(apart, common).Sign() != 0:
		want = api.ErrNone
	}
	if e != want || want != api.OK && (x != 0 || l != 0) {
		t.Errorf("Meet of %d, %d, %d, %d: %d, %d, %d instead of the error %d", a, m, b, n, x, l, e, want)
	}
	if want == api.OK && (l != least.Int64() || x < 0 || x >= l || !sameRest(x, a, m) || !sameRest(x, b, n)) {
		t.Errorf("Meet of %d, %d, %d, %d: %d, %d", a, m, b, n, x, l)
	}
	return map[api.Errno]int{api.OK: 0, api.ErrNone: 1, api.ErrLong: 2}[want]
}

func sameRest(x, a, m int64) bool {
	d := new(big.Int).Sub(big.NewInt(x), big.NewInt(a))
	return d.Mod(d, big.NewInt(m)).Sign() == 0
}

func TestMeetOrderOfErrors(t *testing.T) {
	for _, x := range []struct {
		a, m, b, n int64
		e          api.Errno
	}{
		{0, 0, 0, 1, api.ErrArg},
		{0, 1, 0, 0, api.ErrArg},
		{0, -3, 0, 5, api.ErrArg},
		{0, greatestModulus + 1, 0, 1, api.ErrArg},
		{0, 1, 0, greatestModulus + 1, api.ErrArg},
		{0, 1, 0, math.MaxInt64, api.ErrArg},
		{0, math.MinInt64, 1, 2, api.ErrArg},
		{0, 1_000_001, 0, 1_000_003, api.ErrLong},
		{0, 2_000_002, 1, 2_000_006, api.ErrLong}, // no number meets, but the length comes first
		{0, greatestModulus, 0, greatestModulus - 1, api.ErrLong},
		{0, greatestModulus, 0, 3, api.ErrLong},
		{1, 4, 2, 6, api.ErrNone},
		{0, greatestModulus, 1, greatestModulus, api.ErrNone},
	} {
		if got, l, e := num.Meet(x.a, x.m, x.b, x.n); got != 0 || l != 0 || e != x.e {
			t.Errorf("Meet of %d, %d, %d, %d: %d, %d, %d instead of the error %d", x.a, x.m, x.b, x.n, got, l, e, x.e)
		}
	}
	for _, x := range [][6]int64{
		{2, 3, 3, 5, 8, 15},
		{0, 1, 0, 1, 0, 1},
		{-1, greatestModulus, -1, greatestModulus, greatestModulus - 1, greatestModulus},
		{-1, 1_000_000, -1, 1_000_000, 999_999, 1_000_000},
		{7, 1 << 12, 7, 244_140_625, 7, greatestModulus},
		{-1, 1 << 12, -1, 244_140_625, greatestModulus - 1, greatestModulus},
		{math.MinInt64, 2, math.MaxInt64, 3, 4, 6},
	} {
		if got, l, e := num.Meet(x[0], x[1], x[2], x[3]); got != x[4] || l != x[5] || e != api.OK {
			t.Errorf("Meet of %v: %d, %d, %d", x, got, l, e)
		}
	}
}
