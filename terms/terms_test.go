package terms_test

import (
	"slices"
	"testing"

	"knotwork/api"
	"knotwork/terms"
)

// Sums and products, beyond the limits of what is handed in; terms that come to 0 are left out.
func TestSumsAndProducts(t *testing.T) {
	p := terms.Of([]api.Term{{Exp: -3000, Coef: 1 << 40}, {Exp: 2, Coef: 5}})
	q := terms.Of([]api.Term{{Exp: 2, Coef: -5}, {Exp: 1, Coef: 1}, {Exp: 1, Coef: 1}})
	if got, want := p.Plus(q).InForm(), []api.Term{{Exp: -3000, Coef: 1 << 40}, {Exp: 1, Coef: 2}}; !slices.Equal(got, want) {
		t.Error(got, "wanted:", want)
	}
	if got, want := p.Times(q).InForm(), []api.Term{{Exp: -2999, Coef: 1 << 41}, {Exp: -2998, Coef: -5 << 40}, {Exp: 3, Coef: 10}, {Exp: 4, Coef: -25}}; !slices.Equal(got, want) {
		t.Error(got, "wanted:", want)
	}
	if len(p) != 2 || len(q) != 2 || p[2] != 5 || q[1] != 2 {
		t.Error(p, q, "were changed")
	}
	if got := terms.Work(nil).Plus(nil).InForm(); len(got) != 0 {
		t.Error(got)
	}
}

// Polynomials of two variables: sums and products; terms that come to 0 are left out, and the others are told by X, then by Z.
func TestPairs(t *testing.T) {
	p := terms.Pairs{{X: 1, Z: -2}: 3, {X: -1, Z: 5}: 1 << 40, {X: 1, Z: -3}: 7}
	q := terms.Pairs{{X: 0, Z: 1}: 1, {X: 2, Z: 0}: -1}
	if got, want := p.InForm(), []api.Term2{{X: -1, Z: 5, Coef: 1 << 40}, {X: 1, Z: -3, Coef: 7}, {X: 1, Z: -2, Coef: 3}}; !slices.Equal(got, want) {
		t.Error(got, "wanted:", want)
	}
	if got, want := p.Times(q).InForm(), []api.Term2{{X: -1, Z: 6, Coef: 1 << 40}, {X: 1, Z: -2, Coef: 7}, {X: 1, Z: -1, Coef: 3}, {X: 1, Z: 5, Coef: -1 << 40}, {X: 3, Z: -3, Coef: -7}, {X: 3, Z: -2, Coef: -3}}; !slices.Equal(got, want) {
		t.Error(got, "wanted:", want)
	}
	if len(p) != 3 || len(q) != 2 || p[terms.Pair{X: 1, Z: -2}] != 3 {
		t.Error(p, q, "were changed")
	}
	p.Add(q, api.Term2{X: 1, Z: -3, Coef: -3})
	if got, want := p.InForm(), []api.Term2{{X: -1, Z: 5, Coef: 1 << 40}, {X: 1, Z: -3, Coef: 7}, {X: 3, Z: -3, Coef: 3}}; !slices.Equal(got, want) {
		t.Error(got, "wanted:", want)
	}
	if got := terms.Pairs(nil).Times(p).InForm(); len(got) != 0 {
		t.Error(got)
	}
}

// Determinants of more rows than chapter 1 takes: a turn of all places, and a product of two triangles.
func TestExpanded(t *testing.T) {
	for side := range 13 {
		turned, product := make([][][]api.Term, side), make([][][]api.Term, side)
		want := []api.Term{{Exp: side, Coef: 1}}
		for i := range side {
			turned[i], product[i] = make([][]api.Term, side), make([][]api.Term, side)
			turned[i][(i+1)%side] = []api.Term{{Exp: 1, Coef: 1}}
			if side%2 == 0 {
				want = []api.Term{{Exp: side, Coef: -1}}
			}
			for j := range side { // the lower triangle has 1 everywhere, the upper one has t
				product[i][j] = []api.Term{{Exp: 1, Coef: min(i, j) + 1}}
			}
		}
		if got := terms.Expanded(turned).InForm(); !slices.Equal(got, want) {
			t.Error("turned", side, got, "wanted:", want)
		}
		if got, want := terms.Expanded(product).InForm(), []api.Term{{Exp: side, Coef: 1}}; !slices.Equal(got, want) {
			t.Error("product", side, got, "wanted:", want)
		}
	}
}
