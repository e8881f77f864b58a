// Package terms: polynomials at work, without the limits of those that are handed in.
package terms

import (
	"cmp"
	"slices"

	"knotwork/api"
)

// Work is a polynomial at work: coefficients, found by exponents. One that has
// come to 0 may still stand there; InForm leaves it out.
type Work map[int]int

// Of: a polynomial's terms, put to work.
func Of(a []api.Term) Work {
	p := make(Work, len(a))
	for _, t := range a {
		p[t.Exp] += t.Coef
	}
	return p
}

// InForm: its terms, as chapter 1 wants them.
func (p Work) InForm() []api.Term {
	var a []api.Term
	for exp, coef := range p {
		if coef != 0 {
			a = append(a, api.Term{Exp: exp, Coef: coef})
		}
	}
	slices.SortFunc(a, func(x, y api.Term) int { return cmp.Compare(x.Exp, y.Exp) })
	return a
}

// Plus: the sum, as a new one.
func (p Work) Plus(q Work) Work {
	sum := make(Work, len(p)+len(q))
	for exp, coef := range p {
		sum[exp] = coef
	}
	for exp, coef := range q {
		sum[exp] += coef
	}
	return sum
}

// Times: the product, as a new one.
func (p Work) Times(q Work) Work {
	product := Work{}
	for exp, coef := range p {
		for exp2, coef2 := range q {
			product[exp+exp2] += coef * coef2
		}
	}
	return product
}
