package poly

import (
	"cmp"
	"strconv"
	"strings"

	"stadda/api"
	"stadda/exact"
)

// maxText is the greatest length of a string that Parse reads.
const maxText = 14000

// term is one term of a canonical form. Its power is in decimal digits, as it may be any number.
type term struct {
	coefficient exact.Rat
	power       string
}

// Parse reads the canonical form of a polynomial.
func Parse(s string) (Poly, api.Errno) {
	if len(s) > maxText {
		return Poly{}, api.ErrLong
	}
	if s == "0" {
		return Poly{}, api.OK
	}
	terms, ok := readTerms(s)
	if !ok {
		return Poly{}, api.ErrForm
	}
	degree, e := strconv.Atoi(terms[0].power)
	if e != nil || degree > api.MaxDegree {
		return Poly{}, api.ErrDegree
	}
	coefficients := make(list, degree+1)
	for _, t := range terms {
		k, _ := strconv.Atoi(t.power)
		coefficients[k] = t.coefficient
	}
	return attempt(func() Poly { return smallPoly(coefficients) })
}

// readTerms are the terms of the canonical form s of a polynomial that is not 0; it is false if s is none.
func readTerms(s string) ([]term, bool) {
	if s == "" || s[0] == '+' {
		return nil, false
	}
	var terms []term
	for len(s) > 0 {
		negative := s[0] == '-'
		if negative || s[0] == '+' {
			s = s[1:]
		}
		end := endOfTerm(s)
		t, ok := readTerm(s[:end])
		if !ok || len(terms) > 0 && comparePowers(terms[len(terms)-1].power, t.power) <= 0 {
			return nil, false
		}
		if negative {
			t.coefficient = t.coefficient.Neg()
		}
		terms = append(terms, t)
		s = s[end:]
	}
	return terms, true
}

// endOfTerm is where the sign of the next term stands in s, or where s ends.
func endOfTerm(s string) int {
	end := strings.IndexAny(s, "+-")
	if end < 0 {
		return len(s)
	}
	return end
}

// readTerm is the term of which s is the canonical form, without a sign; it is false if s is none.
func readTerm(s string) (term, bool) {
	before, after, powered := strings.Cut(s, "x")
	t := term{coefficient: exact.Of(1), power: "0"}
	if powered {
		t.power = "1"
		if after != "" {
			power, ok := readPower(after)
			if !ok {
				return term{}, false
			}
			t.power = power
		}
		if before == "" {
			return t, true
		}
	}
	coefficient, ok := exact.ParseRat(before)
	if !ok || coefficient.Sign() <= 0 || powered && before == "1" {
		return term{}, false
	}
	t.coefficient = coefficient
	return t, true
}

// readPower is the power of which s is the canonical form, from 2 on; it is false if s is none.
func readPower(s string) (string, bool) {
	digits, marked := strings.CutPrefix(s, "^")
	power, ok := exact.ParseInt(digits)
	if !marked || !ok || power.Cmp(exact.Whole(2)) < 0 {
		return "", false
	}
	return digits, true
}

// comparePowers is the sign of the difference of two powers.
func comparePowers(a, b string) int {
	return cmp.Or(cmp.Compare(len(a), len(b)), strings.Compare(a, b))
}

// String is the canonical form.
func (f Poly) String() string {
	if len(f.terms) == 0 {
		return "0"
	}
	var out strings.Builder
	for k := f.Degree(); k >= 0; k-- {
		c := f.terms[k]
		if c.Sign() == 0 {
			continue
		}
		if c.Sign() < 0 {
			out.WriteByte('-')
			c = c.Neg()
		} else if k < f.Degree() {
			out.WriteByte('+')
		}
		out.WriteString(termText(c, k))
	}
	return out.String()
}

// termText is the canonical form of c x^k, for c greater than 0.
func termText(c exact.Rat, k int) string {
	text := c.String()
	if k == 0 {
		return text
	}
	if text == "1" {
		text = ""
	}
	if k == 1 {
		return text + "x"
	}
	return text + "x^" + strconv.Itoa(k)
}
