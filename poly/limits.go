package poly

import (
	"knotwork/api"
	"knotwork/terms"
)

// mayBe: may it be handed in?
func mayBe(a []api.Term) bool {
	if len(a) > api.MaxTerms {
		return false
	}
	for i, t := range a {
		if t.Coef == 0 || i > 0 && a[i-1].Exp >= t.Exp {
			return false
		}
		if !within(t.Exp, api.MaxExp) || !within(t.Coef, api.MaxCoef) {
			return false
		}
	}
	return true
}

// within: is n at most most in size? The limit is negated rather than n, for
// the least number has no counterpart above 0.
func within(n, most int) bool {
	return -most <= n && n <= most
}

// size of a number that is within limits.
func size(n int) int {
	if n < 0 {
		return -n
	}
	return n
}

// combined: what way makes of both.
func combined(a, b []api.Term, way func(p, q terms.Work) terms.Work) ([]api.Term, api.Errno) {
	if !mayBe(a) || !mayBe(b) {
		return nil, api.ErrForm
	}
	return way(terms.Of(a), terms.Of(b)).InForm(), api.OK
}

// changed: what change makes of each term, in form.
func changed(a []api.Term, change func(t api.Term) api.Term) []api.Term {
	p := make(terms.Work, len(a))
	for _, t := range a {
		t = change(t)
		p[t.Exp] += t.Coef
	}
	return p.InForm()
}
