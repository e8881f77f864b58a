package poly_test

import (
	"math"
	"slices"
	"testing"

	"knotwork/api"
	"knotwork/samples"
)

// of: a polynomial by its exponents and coefficients, in turn.
func of(numbers ...int) []api.Term {
	var a []api.Term
	for i := 0; i < len(numbers); i += 2 {
		a = append(a, api.Term{Exp: numbers[i], Coef: numbers[i+1]})
	}
	return a
}

// row: a polynomial of that many terms, from an exponent on, all with one coefficient.
func row(terms, from, coef int) []api.Term {
	var a []api.Term
	for i := range terms {
		a = append(a, api.Term{Exp: from + i, Coef: coef})
	}
	return a
}

// check: is it that polynomial, without an error?
func check(t *testing.T, what string, got []api.Term, e api.Errno, want []api.Term) {
	t.Helper()
	if e != api.OK || !slices.Equal(got, want) {
		t.Errorf("%q: %v, %v; wanted: %v", what, got, e, want)
	}
}

// refused: is it that error, with no terms?
func refused(t *testing.T, what string, got []api.Term, e, want api.Errno) {
	t.Helper()
	if e != want || len(got) != 0 {
		t.Errorf("%q: %v, %v; wanted: %v", what, got, e, want)
	}
}

// die: drawn polynomials, the same each time.
type die struct{ samples.Die }

// rolled: the die that begins at a number.
func rolled(from int) die { return die{samples.Die(from)} }

// poly: a polynomial of less than most terms.
func (d *die) poly(most int) []api.Term {
	var a []api.Term
	exp := d.Below(9) - 6
	for range d.Below(most) {
		if coef := d.Below(9) - 4; coef != 0 {
			a = append(a, api.Term{Exp: exp, Coef: coef})
		}
		exp += 1 + d.Below(3)
	}
	return a
}

// named: a polynomial with words that tell what it is.
type named struct {
	what string
	a    []api.Term
}

// wrongOnes: polynomials that may not be handed in.
func wrongOnes() []named {
	return []named{
		{"a coefficient 0", of(0, 0)},
		{"a coefficient 0 behind others", of(-1, 2, 0, 3, 4, 0)},
		{"one exponent twice", of(1, 1, 1, 1)},
		{"exponents that fall", of(2, 1, 1, 1)},
		{"exponents that fall at the end", of(0, 1, 2, 1, 3, 1, -1, 1)},
		{"too many terms", row(api.MaxTerms+1, 0, 1)},
		{"far too many terms", row(1000, -500, 1)},
		{"an exponent too great", of(api.MaxExp+1, 1)},
		{"an exponent too far below", of(-api.MaxExp-1, 1, 0, 1)},
		{"the greatest exponent of all", of(0, 1, math.MaxInt, 1)},
		{"the least exponent of all", of(math.MinInt, 1)},
		{"a coefficient too great", of(0, api.MaxCoef+1)},
		{"a coefficient too far below", of(0, 1, 1, -api.MaxCoef-1)},
		{"the greatest coefficient of all", of(0, math.MaxInt)},
		{"the least coefficient of all", of(0, math.MinInt)},
	}
}

// greatOnes: polynomials that may just be handed in.
func greatOnes() []named {
	return []named{
		{"as many terms as may be", row(api.MaxTerms, -30, 1)},
		{"the outermost exponents", of(-api.MaxExp, 1, api.MaxExp, 1)},
		{"the outermost coefficients", of(0, -api.MaxCoef, 1, api.MaxCoef)},
		{"all of them", row(api.MaxTerms, api.MaxExp-api.MaxTerms+1, -api.MaxCoef)},
		{"all of them, below", row(api.MaxTerms, -api.MaxExp, api.MaxCoef)},
		{"none", nil},
		{"none, not nil", []api.Term{}},
	}
}
