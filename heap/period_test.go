package heap_test

import (
	"math"
	"testing"

	"stadda/api"
	"stadda/chance"
	"stadda/heap"
)

// P6.2: Period, IsPeriod.

// isPeriod tells whether pre and period are a period of a code with those values and so many digits, within the limit.
func isPeriod(values []int, digits, limit, pre, period int) bool {
	if limit < 1 || limit > 2000 || pre < 0 || period < 1 || 2*pre+3*period+digits > limit {
		return false
	}
	for n := pre; n <= 2*pre+2*period+digits; n++ {
		if values[n+period] != values[n] {
			return false
		}
	}
	return true
}

// firstPeriod looks at all of them.
func firstPeriod(values []int, digits, limit int) (int, int, bool) {
	for period := 1; period <= limit; period++ {
		for pre := range limit {
			if isPeriod(values, digits, limit, pre, period) {
				return pre, period, true
			}
		}
	}
	return 0, 0, false
}

// wantPeriod checks what Period returns.
func wantPeriod(t *testing.T, code string, limit, pre, period int, found bool) {
	t.Helper()
	p, q, ok, e := heap.Period(code, limit)
	if p != pre || q != period || ok != found || e != api.OK {
		t.Errorf("Period of %s within %d: %d, %d, %t, %d instead of %d, %d, %t", code, limit, p, q, ok, e, pre, period, found)
	}
	if found && !heap.IsPeriod(code, limit, pre, period) {
		t.Errorf("IsPeriod of %s within %d: not %d, %d", code, limit, pre, period)
	}
}

func TestKnownPeriods(t *testing.T) {
	for _, x := range []struct {
		code        string
		pre, period int
	}{
		{"0.77", 71, 12}, {"0.07", 53, 34}, {"0.137", 52, 34}, {"0.4", 54, 34}, {"0.45", 498, 20}, {"0.055", 259, 148}, {"0.26", 1, 4},
		{"0.3", 0, 2}, {"0.33", 0, 3}, {"0.333", 0, 4}, {"0.33333333", 0, 9}, {"0.0", 0, 1}, {"0.00000000", 0, 1}, {"0.1", 2, 1}, {"0.00000001", 9, 1}, {"0.2", 1, 2}, {"0.5", 0, 2}, {"0.7", 0, 2},
		{"0.10000000", 2, 1}, {"0.300", 0, 2},
	} {
		needed := 2*x.pre + 3*x.period + len(x.code) - 2
		wantPeriod(t, x.code, 2000, x.pre, x.period, true)
		wantPeriod(t, x.code, needed, x.pre, x.period, true)
		pre, period, ok := firstPeriod(valuesOf(x.code, needed-1), len(x.code)-2, needed-1)
		wantPeriod(t, x.code, needed-1, pre, period, ok)
	}
	for _, code := range []string{"0.6", "0.007", "0.16", "0.644", "0.356"} { // none is known, or one that is too great
		wantPeriod(t, code, 2000, 0, 0, false)
	}
}

func TestPeriods(t *testing.T) {
	for i, code := range codes(621, 60) {
		values := valuesOf(code, 120)
		for limit := 1; limit <= 120; limit++ {
			if limit > 40 && (i+limit)%10 > 0 {
				continue
			}
			pre, period, ok := firstPeriod(values, len(code)-2, limit)
			wantPeriod(t, code, limit, pre, period, ok)
		}
	}
}

func TestIsPeriod(t *testing.T) {
	for _, code := range codes(623, 30) {
		values := valuesOf(code, 30)
		for _, limit := range []int{1, 4, 5, 6, 7, 13, 29, 30} {
			for pre := -3; pre <= limit+2; pre++ {
				for period := -3; period <= limit+2; period++ {
					if is := heap.IsPeriod(code, limit, pre, period); is != isPeriod(values, len(code)-2, limit, pre, period) {
						t.Errorf("IsPeriod of %s within %d of %d, %d: %t", code, limit, pre, period, is)
					}
				}
			}
		}
	}
}

func TestGreatPeriods(t *testing.T) {
	values := valuesOf("0.77", 2000)
	s := chance.Source(624)
	some := 0
	for range 300 {
		pre, period, limit := s.Below(200), 12*s.From(1, 50), s.From(1500, 2000)
		if s.Below(4) == 0 {
			period++
		}
		want := isPeriod(values, 2, limit, pre, period)
		if is := heap.IsPeriod("0.77", limit, pre, period); is != want {
			t.Errorf("IsPeriod of 0.77 within %d of %d, %d: %t", limit, pre, period, is)
		}
		if want {
			some++
		}
	}
	if some < 50 {
		t.Errorf("only %d periods", some)
	}
	for _, x := range [][2]int{{0, 666}, {998, 1}, {970, 19}} { // 2 pre + 3 period + 1 is 1999, or 2000, or 1998
		if limit := 2*x[0] + 3*x[1] + 1; !heap.IsPeriod("0.0", limit, x[0], x[1]) || heap.IsPeriod("0.0", limit-1, x[0], x[1]) {
			t.Errorf("IsPeriod of 0.0 of %v", x)
		}
	}
}

func TestNoLimits(t *testing.T) {
	for _, limit := range append([]int{0, -1, -5, 2001, 2002, 2048}, extremes...) {
		if pre, period, ok, e := heap.Period("0.3", limit); pre != 0 || period != 0 || ok || e != api.ErrArg {
			t.Errorf("Period within %d: %d, %d, %t, %d", limit, pre, period, ok, e)
		}
		if heap.IsPeriod("0.3", limit, 0, 2) {
			t.Errorf("IsPeriod within %d", limit)
		}
	}
}

// Numbers whose multiples are not ints, some of them small again if they are cut off.
func TestHugePeriods(t *testing.T) {
	numbers := append([]int{0, 1, 2, 2001, math.MaxInt/3 + 1, math.MinInt/3 - 1, -math.MaxInt/3*2 - 1, math.MinInt/3*2 + 1}, extremes...)
	for _, pre := range numbers {
		for _, period := range numbers {
			for _, limit := range []int{100, 2000} {
				want := pre >= 0 && pre <= 2 && period == 2
				if is := heap.IsPeriod("0.3", limit, pre, period); is != want {
					t.Errorf("IsPeriod of 0.3 within %d of %d, %d: %t", limit, pre, period, is)
				}
			}
		}
	}
}
