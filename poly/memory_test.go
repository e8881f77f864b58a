package poly_test

import (
	"slices"
	"testing"

	"knotwork/api"
	"knotwork/poly"
)

// roomy: the polynomial with spare room behind it, which is not empty.
func roomy(a []api.Term) []api.Term {
	b := append(slices.Clone(a), row(40, 7000, 77)...)
	return b[:len(a)]
}

// spoil: whatever stands there, spare room too, becomes something else.
func spoil(a []api.Term) {
	a = a[:cap(a)]
	for i := range a {
		a[i] = api.Term{Exp: -9999, Coef: -9999}
	}
}

// What holds everywhere: what is handed in stays as it is, spare room too, and what comes out shares nothing with it.
func TestMemory(t *testing.T) {
	plain := of(0, 1, 1, 2, 3, 4) // Unit has nothing to change here
	all := map[string]func(a []api.Term) ([]api.Term, api.Errno){
		"Add":      func(a []api.Term) ([]api.Term, api.Errno) { return poly.Add(a, nil) },
		"Add back": func(a []api.Term) ([]api.Term, api.Errno) { return poly.Add(nil, a) },
		"Add self": func(a []api.Term) ([]api.Term, api.Errno) { return poly.Add(a, a) },
		"Mul":      func(a []api.Term) ([]api.Term, api.Errno) { return poly.Mul(a, of(0, 1)) },
		"Mul self": func(a []api.Term) ([]api.Term, api.Errno) { return poly.Mul(a, a) },
		"Unit":     poly.Unit,
		"Flip":     poly.Flip,
		"Det":      func(a []api.Term) ([]api.Term, api.Errno) { return poly.Det([][][]api.Term{{a}}) },
		"Det of two": func(a []api.Term) ([]api.Term, api.Errno) {
			return poly.Det([][][]api.Term{{a, a}, {nil, of(0, 1)}})
		},
	}
	for what, call := range all {
		a := roomy(plain)
		first, e := call(a)
		if want := roomy(plain); e != api.OK || !slices.Equal(a[:cap(want)], want[:cap(want)]) {
			t.Error(what, "has changed what was handed in:", a, e)
		}
		kept := slices.Clone(first)
		second, _ := call(a)
		spoil(second)
		if want := roomy(plain); !slices.Equal(a[:cap(want)], want[:cap(want)]) || !slices.Equal(first, kept) {
			t.Error(what, "has shared its answer")
		}
		spoil(a)
		if !slices.Equal(first, kept) {
			t.Error(what, "has kept what was handed in")
		}
		if third, _ := call(roomy(plain)); !slices.Equal(third, kept) {
			t.Error(what, "answers otherwise a second time:", third, kept)
		}
	}
}

// What holds everywhere: what Read answers is new each time.
func TestMemoryOfRead(t *testing.T) {
	first, _ := poly.Read("1 + 2*t + 4*t^3")
	spoil(first)
	second, e := poly.Read("1 + 2*t + 4*t^3")
	check(t, "Read", second, e, of(0, 1, 1, 2, 3, 4))
}
