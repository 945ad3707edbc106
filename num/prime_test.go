package num_test

import (
	"math"
	"math/big"
	"reflect"
	"testing"

	"stadda/api"
	"stadda/num"
)

// P1.4: primes.

// symbol is the symbol of Jacobi by its definition.
func symbol(a, n int64) int {
	product := 1
	for p := int64(3); n > 1; p += 2 {
		for n%p == 0 {
			n /= p
			product *= legendre(a, p)
		}
	}
	return product
}

func legendre(a, p int64) int {
	if a%p == 0 {
		return 0
	}
	for x := range p {
		if (x*x-a)%p == 0 {
			return 1
		}
	}
	return -1
}

func TestSymbolByDefinition(t *testing.T) {
	for n := int64(1); n < 250; n += 2 {
		for a := int64(-270); a < 270; a++ {
			if got, e := num.Symbol(a, n); got != symbol(a, n) || e != api.OK {
				t.Errorf("Symbol of %d and %d: %d, %d", a, n, got, e)
			}
		}
	}
}

func TestSymbolWithLargeNumbers(t *testing.T) {
	for _, n := range append(manyModuli(300), greatestModulus-1, 999_999_999_989, 1) {
		n -= 1 - n%2
		if n < 1 {
			continue
		}
		for _, a := range manyInt64s(30) {
			rest := new(big.Int).Mod(big.NewInt(a), big.NewInt(n))
			if got, e := num.Symbol(a, n); got != big.Jacobi(rest, big.NewInt(n)) || e != api.OK {
				t.Errorf("Symbol of %d and %d: %d, %d", a, n, got, e)
			}
		}
	}
}

func TestSymbolRefuses(t *testing.T) {
	for _, n := range append([]int64{2, 4, greatestModulus, -3, -5, greatestModulus + 3, math.MinInt64 + 1}, notModuli...) {
		if got, e := num.Symbol(1, n); got != 0 || e != api.ErrArg {
			t.Errorf("Symbol by %d: %d, %d", n, got, e)
		}
	}
}

func TestFactorsAndDivisorsBySearch(t *testing.T) {
	for n := int64(1); n <= 3000; n++ {
		var divisors []int64
		for d := int64(1); d <= n; d++ {
			if n%d == 0 {
				divisors = append(divisors, d)
			}
		}
		var factors [][2]int64
		left := n
		for p := int64(2); left > 1; p++ {
			if left%p == 0 {
				factors = append(factors, [2]int64{p, 0})
			}
			for left%p == 0 {
				left /= p
				factors[len(factors)-1][1]++
			}
		}
		if got, e := num.Divisors(n); !reflect.DeepEqual(got, divisors) || e != api.OK {
			t.Errorf("Divisors of %d: %v, %d", n, got, e)
		}
		if got, e := num.Factors(n); len(got) != len(factors) || len(got) > 0 && !reflect.DeepEqual(got, factors) || e != api.OK {
			t.Errorf("Factors of %d: %v, %d", n, got, e)
		}
	}
}

func TestFactorsOfLargeNumbers(t *testing.T) {
	for _, x := range []struct {
		n       int64
		factors [][2]int64
	}{
		{1, nil},
		{999_999_999_989, [][2]int64{{999_999_999_989, 1}}},
		{greatestModulus, [][2]int64{{2, 12}, {5, 12}}},
		{999_966_000_289, [][2]int64{{999_983, 2}}},
		{999_983 * 999_979, [][2]int64{{999_979, 1}, {999_983, 1}}},
		{2 * 499_999_999_979, [][2]int64{{2, 1}, {499_999_999_979, 1}}},
		{1 << 39, [][2]int64{{2, 39}}},
		{282_429_536_481, [][2]int64{{3, 24}}},
		{963_761_198_400, [][2]int64{{2, 6}, {3, 4}, {5, 2}, {7, 1}, {11, 1}, {13, 1}, {17, 1}, {19, 1}, {23, 1}}},
	} {
		if got, e := num.Factors(x.n); len(got) != len(x.factors) || len(got) > 0 && !reflect.DeepEqual(got, x.factors) || e != api.OK {
			t.Errorf("Factors of %d: %v, %d", x.n, got, e)
		}
	}
}

// TestFactorsAndDivisorsAgree checks that the factors are primes, and that the divisors are as many as the factors say.
func TestFactorsAndDivisorsAgree(t *testing.T) {
	for _, n := range append(manyModuli(100), 963_761_198_400) {
		factors, e := num.Factors(n)
		product, count, last := int64(1), 1, int64(1)
		for _, f := range factors {
			if f[0] <= last || f[1] < 1 || !big.NewInt(f[0]).ProbablyPrime(10) {
				t.Errorf("Factors of %d: %v", n, factors)
			}
			for range f[1] {
				product *= f[0]
			}
			count *= int(f[1] + 1)
			last = f[0]
		}
		if product != n || e != api.OK {
			t.Errorf("Factors of %d: %v, %d", n, factors, e)
		}
		divisors, e := num.Divisors(n)
		if len(divisors) != count || e != api.OK {
			t.Errorf("Divisors of %d: %d of them, %d", n, len(divisors), e)
		}
		before := int64(0)
		for _, d := range divisors {
			if d <= before || n%d != 0 {
				t.Errorf("Divisors of %d: %d behind %d", n, d, before)
			}
			before = d
		}
	}
}

func TestFactorsAndDivisorsRefuse(t *testing.T) {
	for _, n := range notModuli {
		if got, e := num.Factors(n); len(got) > 0 || e != api.ErrArg {
			t.Errorf("Factors of %d: %v, %d", n, got, e)
		}
		if got, e := num.Divisors(n); len(got) > 0 || e != api.ErrArg {
			t.Errorf("Divisors of %d: %v, %d", n, got, e)
		}
	}
}

// TestListsAreNew checks rule R4: what is done to a result does not show in the next one.
func TestListsAreNew(t *testing.T) {
	factors, _ := num.Factors(360)
	divisors, _ := num.Divisors(360)
	factors[0], divisors[0] = [2]int64{}, 0
	_, _ = append(factors, [2]int64{}), append(divisors, 0)
	if got, _ := num.Factors(360); !reflect.DeepEqual(got, [][2]int64{{2, 3}, {3, 2}, {5, 1}}) {
		t.Errorf("Factors afterwards: %v", got)
	}
	if got, _ := num.Divisors(360); len(got) != 24 || got[0] != 1 {
		t.Errorf("Divisors afterwards: %v", got)
	}
}
