package heap

import "stadda/api"

// isLimit tells whether periods can be looked for within the limit.
func isLimit(limit int) bool {
	return limit >= 1 && limit <= maxHeap
}

// needed is the greatest heap by which pre and period are known to be a period of a code with so many digits.
func needed(pre, period, digits int) int {
	return 2*pre + 3*period + digits
}

// firstBreak is the first heap from pre on whose value does not come again after the period, and true, or false if all that are needed do.
func (r row) firstBreak(pre, period, digits int) (int, bool) {
	for n := pre; n+period <= needed(pre, period, digits); n++ {
		if r[n] != r[n+period] {
			return n, true
		}
	}
	return 0, false
}

// firstPeriod is the first period within the row, and true, or false if there is none.
func (r row) firstPeriod(digits int) (int, int, bool) {
	limit := len(r) - 1
	pre, period, found := 0, 1, false
search:
	for ; needed(0, period, digits) <= limit; period++ {
		for pre = 0; needed(pre, period, digits) <= limit; {
			n, isBroken := r.firstBreak(pre, period, digits)
			if !isBroken {
				found = true
				break search
			}
			pre = n + 1 // with a lesser one, n would have to come again, too
		}
	}
	if !found {
		return 0, 0, false
	}
	return pre, period, true
}

// Period is the first period of a code within the limit, and true, or false if there is none.
func Period(code string, limit int) (int, int, bool, api.Errno) {
	c, e := read(code)
	if e != api.OK {
		return 0, 0, false, e
	}
	if !isLimit(limit) {
		return 0, 0, false, api.ErrArg
	}
	pre, period, found := c.row(limit).firstPeriod(len(c))
	return pre, period, found, api.OK
}

// IsPeriod tells whether pre and period are a period of a code within the limit.
func IsPeriod(code string, limit, pre, period int) bool {
	c, e := read(code)
	if e != api.OK || !isLimit(limit) {
		return false
	}
	if pre < 0 || pre > limit || period < 1 || period > limit || needed(pre, period, len(c)) > limit {
		return false
	}
	_, isBroken := c.row(limit).firstBreak(pre, period, len(c))
	return !isBroken
}
