package terms_test

import (
	"slices"
	"testing"

	"knotwork/api"
	"knotwork/terms"
)

// Sums and products, beyond the limits of what is handed in; terms that come to 0 are left out.
func TestSumsAndProducts(t *testing.T) {
	p := terms.Of([]api.Term{{Exp: -3000, Coef: 1 << 40}, {Exp: 2, Coef: 5}})
	q := terms.Of([]api.Term{{Exp: 2, Coef: -5}, {Exp: 1, Coef: 1}, {Exp: 1, Coef: 1}})
	if got, want := p.Plus(q).InForm(), []api.Term{{Exp: -3000, Coef: 1 << 40}, {Exp: 1, Coef: 2}}; !slices.Equal(got, want) {
		t.Error(got, "wanted:", want)
	}
	if got, want := p.Times(q).InForm(), []api.Term{{Exp: -2999, Coef: 1 << 41}, {Exp: -2998, Coef: -5 << 40}, {Exp: 3, Coef: 10}, {Exp: 4, Coef: -25}}; !slices.Equal(got, want) {
		t.Error(got, "wanted:", want)
	}
	if len(p) != 2 || len(q) != 2 || p[2] != 5 || q[1] != 2 {
		t.Error(p, q, "were changed")
	}
	if got := terms.Work(nil).Plus(nil).InForm(); len(got) != 0 {
		t.Error(got)
	}
}

// Determinants of more rows than chapter 1 takes: a turn of all places, and a product of two triangles.
func TestExpanded(t *testing.T) {
	for side := range 13 {
		turned, product := make([][][]api.Term, side), make([][][]api.Term, side)
		want := []api.Term{{Exp: side, Coef: 1}}
		for i := range side {
			turned[i], product[i] = make([][]api.Term, side), make([][]api.Term, side)
			turned[i][(i+1)%side] = []api.Term{{Exp: 1, Coef: 1}}
			if side%2 == 0 {
				want = []api.Term{{Exp: side, Coef: -1}}
			}
			for j := range side { // the lower triangle has 1 everywhere, the upper one has t
				product[i][j] = []api.Term{{Exp: 1, Coef: min(i, j) + 1}}
			}
		}
		if got := terms.Expanded(turned).InForm(); !slices.Equal(got, want) {
			t.Error("turned", side, got, "wanted:", want)
		}
		if got, want := terms.Expanded(product).InForm(), []api.Term{{Exp: side, Coef: 1}}; !slices.Equal(got, want) {
			t.Error("product", side, got, "wanted:", want)
		}
	}
}
