package sum

import (
	"strings"

	"stadda/num"
)

// fraction is a number to calculate with: what is not small leaves the calculation. The zero value is 0.
type fraction struct {
	num.Rat
}

func integer(n int) fraction {
	return fraction{num.Of(int64(n))}
}

func (a fraction) plus(b fraction) fraction {
	return fraction{must(a.Add(b.Rat))}
}

func (a fraction) minus(b fraction) fraction {
	return fraction{must(a.Sub(b.Rat))}
}

func (a fraction) times(b fraction) fraction {
	return fraction{must(a.Mul(b.Rat))}
}

// over is a divided by b, which is not 0.
func (a fraction) over(b fraction) fraction {
	return fraction{must(a.Quo(b.Rat))}
}

// fractions are the numbers of l to calculate with.
func fractions(l []num.Rat) []fraction {
	out := make([]fraction, len(l))
	for i, r := range l {
		out[i] = fraction{r}
	}
	return out
}

// plain are the numbers of l as package num knows them.
func plain(l []fraction) []num.Rat {
	out := make([]num.Rat, len(l))
	for i, a := range l {
		out[i] = a.Rat
	}
	return out
}

// areShort reports whether no numerator and no denominator has more than that many digits.
func areShort(l []num.Rat, digits int) bool {
	bound, _ := num.ParseInt("1" + strings.Repeat("0", digits))
	for _, r := range l {
		over := r.Num()
		if over.Cmp(bound) >= 0 || over.Neg().Cmp(bound) >= 0 || r.Den().Cmp(bound) >= 0 {
			return false
		}
	}
	return true
}

func isWhole(r num.Rat) bool {
	under, ok := r.Den().Int64()
	return ok && under == 1
}
