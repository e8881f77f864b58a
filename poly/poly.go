// Package poly: polynomials that may go below nought.
package poly

import (
	"knotwork/api"
	"knotwork/terms"
)

// Add both.
func Add(a, b []api.Term) ([]api.Term, api.Errno) {
	return combined(a, b, terms.Work.Plus)
}

// Mul: both, multiplied.
func Mul(a, b []api.Term) ([]api.Term, api.Errno) {
	return combined(a, b, terms.Work.Times)
}

// Unit: times a power, and perhaps -1.
func Unit(a []api.Term) ([]api.Term, api.Errno) {
	if !mayBe(a) {
		return nil, api.ErrForm
	}
	if len(a) == 0 {
		return nil, api.OK
	}
	first, sign := a[0].Exp, 1
	if a[0].Coef < 0 {
		sign = -1
	}
	return changed(a, func(t api.Term) api.Term {
		return api.Term{Exp: t.Exp - first, Coef: sign * t.Coef}
	}), api.OK
}

// Flip all exponents' signs.
func Flip(a []api.Term) ([]api.Term, api.Errno) {
	if !mayBe(a) {
		return nil, api.ErrForm
	}
	return changed(a, func(t api.Term) api.Term {
		return api.Term{Exp: -t.Exp, Coef: t.Coef}
	}), api.OK
}

// At: its value where the variable is 1 or -1.
func At(a []api.Term, t int) (int, api.Errno) {
	if !mayBe(a) {
		return 0, api.ErrForm
	}
	if t != 1 && t != -1 {
		return 0, api.ErrRange
	}
	sum := 0
	for _, term := range a {
		if term.Exp%2 == 0 {
			sum += term.Coef
		} else {
			sum += t * term.Coef
		}
	}
	return sum, api.OK
}

// Det: a table's determinant.
func Det(m [][][]api.Term) ([]api.Term, api.Errno) {
	if !square(m) {
		return nil, api.ErrSize
	}
	if !everyPlace(m, mayBe) {
		return nil, api.ErrForm
	}
	if !everyPlace(m, small) {
		return nil, api.ErrRange
	}
	return terms.Expanded(m).InForm(), api.OK
}

// Text of a polynomial.
func Text(a []api.Term) (string, api.Errno) {
	if !mayBe(a) {
		return "", api.ErrForm
	}
	return told(a), api.OK
}

// Read a polynomial's text.
func Read(s string) ([]api.Term, api.Errno) {
	if len(s) > api.MaxText {
		return nil, api.ErrSize
	}
	a, ok := parsed(s)
	// parsed takes more than Text writes (a + or a 0 ahead of a number, a sign
	// at the end): only what is told as the same text again was one of Text's.
	if !ok || !mayBe(a) || told(a) != s {
		return nil, api.ErrForm
	}
	return a, api.OK
}
