package poly

import "stadda/exact"

// whole are the coefficients of a polynomial, integers of any size, from that of x^0 on, the last one not 0. They are not changed once they are made.
type whole []exact.Int

func (a whole) degree() int {
	return len(a) - 1
}

// leading is the last coefficient of a, which is not 0.
func (a whole) leading() exact.Int {
	return a[len(a)-1]
}

// cleared are the primitive polynomial and the number whose product is f.
func (f list) cleared() (whole, exact.Rat) {
	under := exact.Whole(1)
	for _, c := range f {
		own, _ := c.Den().Div(exact.Gcd(c.Den(), under))
		under = under.Times(own)
	}
	a := make(whole, len(f))
	for i, c := range f {
		a[i] = c.Times(exact.From(under)).Num()
	}
	primitive, content := a.primitive()
	return primitive, exact.From(content).Over(exact.From(under))
}

// primitive are the polynomial whose coefficients have no common divisor but 1, and the number, greater than 0, whose product is a; of 0 they are 0.
func (a whole) primitive() (whole, exact.Int) {
	var content exact.Int
	for _, c := range a {
		content = exact.Gcd(content, c)
	}
	return a.exactly(content), content
}

// exactly is a divided by c, which divides it and is not 0 (unless a is 0).
func (a whole) exactly(c exact.Int) whole {
	quotient := make(whole, len(a))
	for i, d := range a {
		quotient[i], _ = d.Div(c)
	}
	return quotient
}

// monic is a, which is not 0, divided by its last coefficient.
func (a whole) monic() list {
	f := make(list, len(a))
	for i, c := range a {
		f[i] = exact.From(c).Over(exact.From(a.leading()))
	}
	return f
}

// combined is c a + d x^k b.
func (a whole) combined(c, d exact.Int, k int, b whole) whole {
	sum := make(whole, max(len(a), len(b)+k))
	for i, x := range a {
		sum[i] = c.Times(x)
	}
	for i, x := range b {
		sum[i+k] = sum[i+k].Plus(d.Times(x))
	}
	return cut(sum)
}

// minus is a - b.
func (a whole) minus(b whole) whole {
	return a.combined(exact.Whole(1), exact.Whole(-1), 0, b)
}

// derived is the derivative of a.
func (a whole) derived() whole {
	derivative := make(whole, max(0, len(a)-1))
	for i := range derivative {
		derivative[i] = a[i+1].Times(exact.Whole(int64(i + 1)))
	}
	return derivative
}

// pseudoRest is the rest by b of a times the last coefficient of b to the power deg a - deg b + 1, or a itself if the degree of a is less.
func (a whole) pseudoRest(b whole) whole {
	rest := a
	for k := len(a) - len(b); k >= 0; k-- {
		var top exact.Int
		if len(rest) == len(b)+k {
			top = rest.leading()
		}
		rest = rest.combined(b.leading(), top.Neg(), k, b)
	}
	return rest
}

// over is the quotient of a by b, which is not 0, if there is one with integer coefficients.
func (a whole) over(b whole) (whole, bool) {
	quotient := make(whole, max(0, len(a)-len(b)+1))
	rest := a
	for k := len(a) - len(b); k >= 0; k-- {
		if len(rest) < len(b)+k {
			continue
		}
		times, left := rest.leading().Div(b.leading())
		if left.Sign() != 0 {
			return nil, false
		}
		quotient[k] = times
		rest = rest.combined(exact.Whole(1), times.Neg(), k, b)
	}
	return quotient, len(rest) == 0
}

// quotient is a divided by b, which divides it and is primitive.
func (a whole) quotient(b whole) whole {
	q, _ := a.over(b)
	return q
}

// common is the primitive common divisor of a and b of the highest degree, 0 if both are 0.
func common(a, b whole) whole {
	for len(b) > 0 {
		rest, _ := a.pseudoRest(b).primitive()
		a, b = b, rest
	}
	divisor, _ := a.primitive()
	return divisor
}

// resultant is the resultant of a and b, by the sequence of subresultants: each rest is divided by what is known to divide it, so that its coefficients are minors of Sylvester's matrix.
func resultant(a, b whole) exact.Int {
	sign := exact.Whole(1)
	if len(a) < len(b) {
		sign = signOfSwap(a, b)
		a, b = b, a
	}
	last, scale := exact.Whole(1), exact.Whole(1)
	for b.degree() > 0 {
		sign = sign.Times(signOfSwap(a, b))
		gap := a.degree() - b.degree()
		rest := a.pseudoRest(b).exactly(last.Times(power(scale, gap)))
		a, b = b, rest
		last = a.leading()
		scale = raised(last, scale, gap)
	}
	if len(b) == 0 {
		return exact.Int{}
	}
	return raised(b.leading(), scale, a.degree()).Times(sign)
}

// signOfSwap is the resultant of b and a divided by that of a and b.
func signOfSwap(a, b whole) exact.Int {
	if a.degree()%2 == 1 && b.degree()%2 == 1 {
		return exact.Whole(-1)
	}
	return exact.Whole(1)
}

// raised is a^n / b^(n - 1), which is an integer for what resultant needs it for; b is 1 if n is 0.
func raised(a, b exact.Int, n int) exact.Int {
	quotient, _ := power(a, n).Div(power(b, n-1))
	return quotient
}

// power is a^n, or 1 if n is negative.
func power(a exact.Int, n int) exact.Int {
	product := exact.Whole(1)
	for range n {
		product = product.Times(a)
	}
	return product
}
