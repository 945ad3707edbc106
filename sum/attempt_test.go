package sum

import (
	"strings"
	"testing"

	"stadda/api"
	"stadda/num"
)

// No call comes to numbers that are not small, but for IsClosed, which is false then. So what happens to them shows inside the package only.
func TestNumbersThatAreNotSmallLeaveTheCalculation(t *testing.T) {
	large, _ := num.ParseInt(strings.Repeat("9", 20000))
	a := fraction{num.From(large)}
	b := integer(1).over(a)
	for i, calculate := range []func() fraction{
		func() fraction { return a.times(a) },
		func() fraction { return a.over(b) },
		func() fraction { return b.plus(b.times(b)) },
		func() fraction { return b.times(b).minus(a) },
		func() fraction { return valueOf(polynomial(a, a, a), 1).times(a) },
		func() fraction { return leading(product(polynomial(a), polynomial(a))) },
	} {
		if c, e := attempt(calculate); e != api.ErrSize || c.Sign() != 0 {
			t.Errorf("calculation %d: sign %d, %d", i, c.Sign(), e)
		}
	}
	if c, e := attempt(func() fraction { return a.plus(a) }); e != api.OK || c.Cmp(a.Rat) <= 0 {
		t.Errorf("a calculation with a small result: %d", e)
	}
}
