package sum

import (
	"slices"

	"stadda/api"
	"stadda/poly"
)

// closedForm are the polynomials of a closed form, if there is one.
type closedForm struct {
	p, q poly.Poly
	ok   bool
}

// Closed is a closed form of t and true, or false if there is none.
func Closed(t Term) (poly.Poly, poly.Poly, bool, api.Errno) {
	if e := Check(t); e != api.OK {
		return poly.Poly{}, poly.Poly{}, false, e
	}
	found, e := attempt(t.closedForm)
	return found.p, found.q, found.ok, e
}

// closedForm looks for a closed form (Gosper): with the parts of t, each one is b(x - 1) y(x) / c(x) for a polynomial y with a(x) y(x + 1) - b(x - 1) y(x) = c(x).
func (t Term) closedForm() closedForm {
	parts := t.split()
	before := shifted(parts.b, -1)
	y, ok := unknown(parts.a, before, product(parts.factors...))
	if !ok {
		return closedForm{}
	}
	p, q := reduced(product(before, y), parts.factors)
	return closedForm{p, q, true}
}

// parts are polynomials with Top / Bottom = a(x) / b(x) c(x + 1) / c(x), such that a and b(x + h) have no common divisor of degree at least 1 for any integer h from 0 on. c is the product of the factors, which are monic and of degree at most maxTermDegree.
type parts struct {
	a, b    poly.Poly
	factors []poly.Poly
}

// split moves d(x) / d(x - h), for each common divisor d of a and b(x + h), from the quotient of a and b to that of c(x + 1) and c(x), for c = d(x - 1) .. d(x - h).
func (t Term) split() parts {
	s := parts{a: t.Top, b: t.Bottom}
	for _, h := range must(poly.Spread(t.Top, t.Bottom)) {
		d := must(poly.Gcd(s.a, shifted(s.b, int(h))))
		s.a = quotient(s.a, d)
		s.b = quotient(s.b, shifted(d, -int(h)))
		for i := range int(h) {
			s.factors = append(s.factors, shifted(d, -i-1))
		}
	}
	return s
}

// unknown is a polynomial y with a(x) y(x + 1) - b(x) y(x) = c(x), if there is one; none of a, b and c is 0. With the highest powers first, the equations are almost solved from the start.
func unknown(a, b, c poly.Poly) (poly.Poly, bool) {
	degree := maxUnknown(a, b, c)
	var columns [][]fraction
	for k := degree; k >= 0; k-- {
		power := powerOfX(k)
		image := must(product(a, shifted(power, 1)).Sub(product(b, power)))
		columns = append(columns, fractions(image.Coeffs()))
	}
	columns = append(columns, fractions(c.Coeffs()))
	coefficients, ok := solve(rowsOf(columns), len(columns)-1)
	if !ok {
		return poly.Poly{}, false
	}
	slices.Reverse(coefficients)
	return polynomial(coefficients...), true
}

// maxUnknown is a degree that y does not exceed if a(x) y(x + 1) - b(x) y(x) = c(x). If a and b are of degree m with the same last coefficient, that of x^(m + d) is 0 for a y of degree d; the one before it is d times the last coefficient, and what a has more than b at x^(m - 1).
func maxUnknown(a, b, c poly.Poly) int {
	degree := max(a.Degree(), b.Degree())
	if a.Degree() != b.Degree() || leading(a).Cmp(leading(b).Rat) != 0 {
		return c.Degree() - degree
	}
	special, _ := second(b).minus(second(a)).over(leading(a)).Floor().Int64()
	return max(c.Degree()-degree+1, int(special))
}

// second is the coefficient before the last one.
func second(f poly.Poly) fraction {
	if f.Degree() < 1 {
		return fraction{}
	}
	return fraction{f.Coeffs()[f.Degree()-1]}
}

// rowsOf are the equations, one for each power, the highest first, from the coefficients of polynomials.
func rowsOf(columns [][]fraction) equations[fraction] {
	longest := 0
	for _, column := range columns {
		longest = max(longest, len(column))
	}
	rows := make(equations[fraction], longest)
	for i := range rows {
		rows[i] = make([]fraction, len(columns))
		for j, column := range columns {
			if power := longest - 1 - i; power < len(column) {
				rows[i][j] = column[power]
			}
		}
	}
	return rows
}

// reduced are top and the product of the factors, which are monic, divided by their common divisor.
func reduced(top poly.Poly, factors []poly.Poly) (poly.Poly, poly.Poly) {
	bottom := powerOfX(0)
	for _, f := range factors {
		d := common(top, f)
		top = quotient(top, d)
		bottom = product(bottom, quotient(f, d))
	}
	return top, bottom
}
