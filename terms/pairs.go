package terms

import (
	"cmp"
	"slices"

	"knotwork/api"
)

// Pair of exponents: that of x, and that of z.
type Pair struct{ X, Z int }

// Pairs is a polynomial of two variables at work: coefficients, found by
// exponents. One that has come to 0 may still stand there; InForm leaves it out.
type Pairs map[Pair]int

// Add to it another one, times a term. (It must not be the same one.)
func (p Pairs) Add(q Pairs, by api.Term2) {
	for exps, coef := range q {
		p[Pair{exps.X + by.X, exps.Z + by.Z}] += coef * by.Coef
	}
}

// Times: the product, as a new one.
func (p Pairs) Times(q Pairs) Pairs {
	product := Pairs{}
	for exps, coef := range q {
		product.Add(p, api.Term2{X: exps.X, Z: exps.Z, Coef: coef})
	}
	return product
}

// InForm: its terms, as chapter 11 wants them.
func (p Pairs) InForm() []api.Term2 {
	var l []api.Term2
	for exps, coef := range p {
		if coef != 0 {
			l = append(l, api.Term2{X: exps.X, Z: exps.Z, Coef: coef})
		}
	}
	slices.SortFunc(l, func(a, b api.Term2) int {
		return cmp.Or(cmp.Compare(a.X, b.X), cmp.Compare(a.Z, b.Z))
	})
	return l
}
