package heap_test

import (
	"math"
	"regexp"
	"slices"
	"testing"

	"stadda/api"
	"stadda/chance"
	"stadda/heap"
)

// P6.1: Missing, Check, Values, and the errors of all functions that take codes.

func TestMissing(t *testing.T) {
	for _, x := range []struct {
		l    []int
		want int
	}{
		{nil, 0}, {[]int{}, 0}, {[]int{0}, 1}, {[]int{1}, 0}, {[]int{-1}, 0}, {[]int{0, 0, 0}, 1}, {[]int{1, 0}, 2}, {[]int{2, 0}, 1}, {[]int{0, 2, 1}, 3}, {[]int{3, 2, 1}, 0},
		{[]int{0, 1, 2, 4}, 3}, {[]int{-2, -1, 0, 1}, 2}, {[]int{math.MinInt, math.MaxInt}, 0}, {[]int{math.MaxInt, 0, math.MinInt, 1}, 2}, {[]int{1 << 32, 1<<32 + 1, 0}, 1}, {[]int{3, 0, 1, -5, 1}, 2},
	} {
		if n := heap.Missing(x.l); n != x.want {
			t.Errorf("Missing of %v: %d instead of %d", x.l, n, x.want)
		}
	}
}

func TestMissingOfLongLists(t *testing.T) {
	s := chance.Source(611)
	for range 300 {
		size := s.From(1, 60)
		l := make([]int, s.Below(2*size))
		for i := range l {
			l[i] = s.From(-2, size)
		}
		want := 0
		for slices.Contains(l, want) {
			want++
		}
		before := slices.Clone(l)
		if n := heap.Missing(l); n != want || !slices.Equal(l, before) {
			t.Errorf("Missing of %v: %d instead of %d, leaving %v", before, n, want, l)
		}
	}
	l := make([]int, 100_000)
	for i := range l {
		l[i] = len(l) - 1 - i
	}
	if n := heap.Missing(l); n != len(l) {
		t.Errorf("Missing of 99999 to 0: %d", n)
	}
	l[70_000] = 5
	if n := heap.Missing(l); n != 29_999 {
		t.Errorf("Missing of 99999 to 0 without 29999: %d", n)
	}
	if n := heap.Missing([]int{0, 1, 2, 3}[:2]); n != 2 {
		t.Errorf("Missing of a part of a list: %d", n)
	}
}

// wantCheck compares with the definition of a code.
func wantCheck(t *testing.T, code string) {
	t.Helper()
	want := api.ErrCode
	if regexp.MustCompile(`\A0\.[0-7]{1,8}\z`).MatchString(code) {
		want = api.OK
	}
	if e := heap.Check(code); e != want {
		t.Errorf("Check of %.20q: %d instead of %d", code, e, want)
	}
}

func TestCheck(t *testing.T) {
	for _, code := range codes(612, 100) {
		if e := heap.Check(code); e != api.OK {
			t.Errorf("Check of %q: %d", code, e)
		}
	}
	for _, code := range notCodes {
		if e := heap.Check(code); e != api.ErrCode {
			t.Errorf("Check of %.20q: %d", code, e)
		}
	}
	var all func(prefix string)
	all = func(prefix string) {
		wantCheck(t, prefix)
		for _, c := range []string{"0", ".", "7", "8", "é"} {
			if len(prefix) < 5 {
				all(prefix + c)
			}
		}
	}
	all("")
	for c := range 256 {
		for _, code := range []string{"0.77777777", "0.00000000", "0.1"} {
			for i := range len(code) {
				wantCheck(t, code[:i]+string([]byte{byte(c)})+code[i+1:])
			}
			wantCheck(t, code+string([]byte{byte(c)}))
		}
	}
}

// A string that is no code comes before all other errors.
func TestCodesAreExaminedFirst(t *testing.T) {
	for _, code := range notCodes {
		for _, n := range []int{-1, 0, 1, 5, 2001} {
			if l, e := heap.Values(code, n); len(l) > 0 || e != api.ErrCode {
				t.Errorf("Values of %.20q to %d: %v, %d", code, n, l, e)
			}
			if pre, period, ok, e := heap.Period(code, n); pre != 0 || period != 0 || ok || e != api.ErrCode {
				t.Errorf("Period of %.20q within %d: %d, %d, %t, %d", code, n, pre, period, ok, e)
			}
			if heap.IsPeriod(code, n, 0, 1) || heap.IsPeriod(code, 100, n, 1) {
				t.Errorf("IsPeriod of %.20q", code)
			}
		}
		for _, heaps := range [][]int{nil, {1}, {-1}, {201}, make([]int, 11), {10: 201}} {
			if l, e := heap.Moves(code, heaps); len(l) > 0 || e != api.ErrCode {
				t.Errorf("Moves of %.20q from %v: %v, %d", code, heaps, l, e)
			}
		}
	}
}

func TestKnownValues(t *testing.T) {
	for code, want := range map[string][]int{
		"0.77":       {0, 1, 2, 3, 1, 4, 3, 2, 1, 4, 2, 6, 4, 1, 2, 7, 1, 4, 3, 2, 1, 4, 6, 7}, // Kayles
		"0.07":       {0, 0, 1, 1, 2, 0, 3, 1, 1, 0, 3, 3, 2, 2, 4, 0, 5, 2, 2, 3, 3, 0, 1, 1}, // Dawson's Kayles
		"0.137":      {0, 1, 1, 2, 0, 3, 1, 1, 0, 3, 3, 2, 2, 4, 0, 5, 2, 2, 3, 3, 0, 1, 1, 3}, // Dawson's chess
		"0.007":      {0, 0, 0, 1, 1, 1, 2, 2, 0, 3, 3, 1, 1, 1, 0, 4, 3, 3, 3, 2, 2, 2, 4, 4}, // Treblecross
		"0.6":        {0, 0, 1, 2, 0, 1, 2, 3, 1, 2, 3, 4, 0, 3, 4, 2, 1, 3, 2, 1, 0, 2, 1, 4}, // Officers
		"0.3":        {0, 1, 0, 1, 0, 1},
		"0.333":      {0, 1, 2, 3, 0, 1, 2, 3, 0},
		"0.33333333": {0, 1, 2, 3, 4, 5, 6, 7, 8, 0, 1, 2},
		"0.0":        {0, 0, 0, 0},
		"0.1":        {0, 1, 0, 0, 0},
		"0.2":        {0, 0, 1, 0, 1, 0},
		"0.4":        {0, 0, 0, 1, 1, 2, 0, 3, 1, 1},
		"0.5":        {0, 1, 0, 1, 0, 1},
		"0.7":        {0, 1, 0, 1, 0, 1},
		"0.01":       {0, 0, 1, 0, 0},
		"0.00000001": {0, 0, 0, 0, 0, 0, 0, 0, 1, 0, 0},
		"0.00000002": {0, 0, 0, 0, 0, 0, 0, 0, 0, 1, 1, 1, 1, 1, 1, 1, 1, 0},
		"0.00000004": {0, 0, 0, 0, 0, 0, 0, 0, 0, 0, 1, 1, 1},
	} {
		if l := values(t, code, len(want)-1); !slices.Equal(l, want) {
			t.Errorf("Values of %s: %v instead of %v", code, l, want)
		}
	}
}

func TestValues(t *testing.T) {
	for _, code := range codes(613, 300) {
		want := valuesOf(code, 70)
		if l := values(t, code, 70); !slices.Equal(l, want) {
			t.Errorf("Values of %s: %v instead of %v", code, l, want)
		}
	}
	for most := range 30 {
		if l := values(t, "0.77", most); !slices.Equal(l, valuesOf("0.77", most)) {
			t.Errorf("Values of 0.77 to %d: %v", most, l)
		}
	}
}

func TestGreatestHeaps(t *testing.T) {
	for _, code := range []string{"0.6", "0.77777777", "0.644", "0.356"} {
		want := valuesOf(code, 2000)
		if l := values(t, code, 2000); !slices.Equal(l, want) {
			t.Errorf("Values of %s to 2000 are wrong", code)
		}
		if l := values(t, code, 1999); !slices.Equal(l, want[:2000]) {
			t.Errorf("Values of %s to 1999 are wrong", code)
		}
	}
}

func TestNoValues(t *testing.T) {
	for _, most := range append([]int{-1, -2, 2001, 2002, 2048}, extremes...) {
		if l, e := heap.Values("0.77", most); len(l) > 0 || e != api.ErrArg {
			t.Errorf("Values to %d: %v, %d", most, l, e)
		}
	}
}

// R4: what a call returned is the caller's.
func TestValuesAreNew(t *testing.T) {
	l := values(t, "0.77", 10)
	clear(l)
	_ = append(l, 7)
	if l := values(t, "0.77", 20); !slices.Equal(l, valuesOf("0.77", 20)) {
		t.Errorf("Values: %v", l)
	}
}
