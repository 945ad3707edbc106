package sum_test

import (
	"math"
	"math/big"
	"testing"

	"stadda/api"
	"stadda/sum"
)

// P3.2: Bernoulli, Powers.

func TestSomeNumbersOfBernoulli(t *testing.T) {
	for n, text := range map[int]string{
		0: "1", 1: "-1/2", 2: "1/6", 3: "0", 4: "-1/30", 6: "1/42", 8: "-1/30", 10: "5/66", 12: "-691/2730", 20: "-174611/330",
		59: "0", 60: "-1215233140483755572040304994079820246041491/56786730",
	} {
		if b, e := sum.Bernoulli(n); e != api.OK || b.String() != text {
			t.Errorf("Bernoulli(%d): %s, %d", n, b, e)
		}
	}
}

func TestNumbersOfBernoulliByTheirDefinition(t *testing.T) {
	var numbers []*big.Rat
	for n := range 61 {
		b, e := sum.Bernoulli(n)
		if e != api.OK {
			t.Fatalf("Bernoulli(%d): %d", n, e)
		}
		numbers = append(numbers, ratio(b))
		total := new(big.Rat)
		for k, b := range numbers {
			choices := new(big.Rat).SetInt(new(big.Int).Binomial(int64(n+1), int64(k)))
			total.Add(total, choices.Mul(choices, b))
		}
		if n >= 1 && total.Sign() != 0 {
			t.Errorf("Bernoulli(%d): %s", n, b)
		}
	}
}

func TestBernoulliOutOfRange(t *testing.T) {
	for _, n := range []int{-1, 61, 62, math.MinInt, math.MaxInt} {
		b, e := sum.Bernoulli(n)
		failRat(t, "Bernoulli", b, e, api.ErrArg)
	}
}

// A polynomial of degree k + 1 is settled by k + 2 values.
func TestPowersByTheirValues(t *testing.T) {
	for k := range 31 {
		f, e := sum.Powers(k)
		if e != api.OK || f.Degree() != k+1 {
			t.Errorf("Powers(%d): degree %d, %d", k, f.Degree(), e)
		}
		total := new(big.Rat)
		for n := range int64(40) {
			if of(f).value(n).Cmp(total) != 0 {
				t.Errorf("Powers(%d) at %d: %s instead of %s", k, n, of(f).value(n), total)
			}
			power := new(big.Int).Exp(big.NewInt(n), big.NewInt(int64(k)), nil)
			total.Add(total, new(big.Rat).SetInt(power))
		}
	}
}

func TestPowersOutOfRange(t *testing.T) {
	for _, k := range []int{-1, 31, 60, math.MinInt, math.MaxInt} {
		f, e := sum.Powers(k)
		fail(t, "Powers", f, e, api.ErrArg)
	}
}

// P3.6.
func TestFaulhaber(t *testing.T) {
	for k := range 31 {
		f := make(ratios, k+2)
		f[0] = new(big.Rat)
		for j := range k + 1 {
			b, _ := sum.Bernoulli(j)
			choices := new(big.Rat).SetInt(new(big.Int).Binomial(int64(k+1), int64(j)))
			f[k+1-j] = choices.Mul(choices, ratio(b)).Quo(choices, big.NewRat(int64(k+1), 1))
		}
		g, e := sum.Powers(k)
		want(t, "Powers", g, e, f)
	}
}
