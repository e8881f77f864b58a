package poly

import (
	"cmp"
	"slices"

	"knotwork/api"
)

// work is a polynomial at work: coefficients, found by exponents. One that has
// come to 0 may still stand there; terms leaves it out.
type work map[int]int

// mayBe: may it be handed in?
func mayBe(a []api.Term) bool {
	if len(a) > api.MaxTerms {
		return false
	}
	for i, t := range a {
		if t.Coef == 0 || i > 0 && a[i-1].Exp >= t.Exp {
			return false
		}
		if !within(t.Exp, api.MaxExp) || !within(t.Coef, api.MaxCoef) {
			return false
		}
	}
	return true
}

// within: is n at most most in size? The limit is negated rather than n, for
// the least number has no counterpart above 0.
func within(n, most int) bool {
	return -most <= n && n <= most
}

// size of a number that is within limits.
func size(n int) int {
	if n < 0 {
		return -n
	}
	return n
}

// collected: a polynomial's terms, put to work.
func collected(a []api.Term) work {
	p := make(work, len(a))
	for _, t := range a {
		p[t.Exp] += t.Coef
	}
	return p
}

// terms in form.
func (p work) terms() []api.Term {
	var a []api.Term
	for exp, coef := range p {
		if coef != 0 {
			a = append(a, api.Term{Exp: exp, Coef: coef})
		}
	}
	slices.SortFunc(a, func(x, y api.Term) int { return cmp.Compare(x.Exp, y.Exp) })
	return a
}

// plus: the sum, as a new one.
func (p work) plus(q work) work {
	sum := make(work, len(p)+len(q))
	for exp, coef := range p {
		sum[exp] = coef
	}
	for exp, coef := range q {
		sum[exp] += coef
	}
	return sum
}

// times: the product, as a new one.
func (p work) times(q work) work {
	product := work{}
	for exp, coef := range p {
		for exp2, coef2 := range q {
			product[exp+exp2] += coef * coef2
		}
	}
	return product
}

// combined: what way makes of both.
func combined(a, b []api.Term, way func(p, q work) work) ([]api.Term, api.Errno) {
	if !mayBe(a) || !mayBe(b) {
		return nil, api.ErrForm
	}
	return way(collected(a), collected(b)).terms(), api.OK
}

// changed: what change makes of each term, in form.
func changed(a []api.Term, change func(t api.Term) api.Term) []api.Term {
	p := make(work, len(a))
	for _, t := range a {
		t = change(t)
		p[t.Exp] += t.Coef
	}
	return p.terms()
}
