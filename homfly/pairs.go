package homfly

import (
	"cmp"
	"slices"

	"knotwork/api"
)

// pair of exponents: that of x, and that of z.
type pair struct{ x, z int }

// work: a polynomial of both variables at work: coefficients, found by exponents. One that has come to 0 may still stand there; inForm leaves it out.
type work map[pair]int

// add to it another one, times a term. (It must not be the same one.)
func (p work) add(q work, by api.Term2) {
	for exps, coef := range q {
		p[pair{exps.x + by.X, exps.z + by.Z}] += coef * by.Coef
	}
}

// inForm: its terms, as the chapter wants them.
func (p work) inForm() []api.Term2 {
	var l []api.Term2
	for exps, coef := range p {
		if coef != 0 {
			l = append(l, api.Term2{X: exps.x, Z: exps.z, Coef: coef})
		}
	}
	slices.SortFunc(l, func(a, b api.Term2) int {
		return cmp.Or(cmp.Compare(a.X, b.X), cmp.Compare(a.Z, b.Z))
	})
	return l
}

// rings: what so many of them are worth, which lie apart. The first one is worth 1.
func rings(count int) work {
	all := work{{0, 0}: 1}
	for range count - 1 {
		more := work{}
		more.add(all, api.Term2{X: 1, Z: -1, Coef: 1})
		more.add(all, api.Term2{X: -1, Z: -1, Coef: -1})
		all = more
	}
	return all
}

// product of two terms.
func product(a, b api.Term2) api.Term2 {
	return api.Term2{X: a.X + b.X, Z: a.Z + b.Z, Coef: a.Coef * b.Coef}
}
