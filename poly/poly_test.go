package poly_test

import (
	"math"
	"slices"
	"testing"

	"knotwork/api"
	"knotwork/poly"
)

// P1.1: sums.
func TestAdd(t *testing.T) {
	for _, c := range []struct{ a, b, sum []api.Term }{
		{nil, nil, nil},
		{nil, of(3, -4), of(3, -4)},
		{of(3, -4), nil, of(3, -4)},
		{of(0, 1, 1, 1), of(0, 1, 1, -1), of(0, 2)},
		{of(-2, 5, 7, 1), of(-2, -5, 7, -1), nil},
		{of(5, 1), of(-5, 2, 0, 3, 6, 4), of(-5, 2, 0, 3, 5, 1, 6, 4)},
		{of(-1000, 1000000), of(-1000, 1000000), of(-1000, 2000000)},
		{of(1000, -1000000), of(1000, -1000000), of(1000, -2000000)},
		{row(64, 0, 7), row(64, 64, 7), row(128, 0, 7)},
	} {
		sum, e := poly.Add(c.a, c.b)
		check(t, "Add", sum, e, c.sum)
	}
}

// P1.1: products.
func TestMul(t *testing.T) {
	for _, c := range []struct{ a, b, product []api.Term }{
		{nil, nil, nil},
		{nil, of(3, -4), nil},
		{of(3, -4), nil, nil},
		{of(0, 1), of(-2, 5, 7, 1), of(-2, 5, 7, 1)},
		{of(-3, 2), of(-2, 5, 7, 1), of(-5, 10, 4, 2)},
		{of(0, 1, 1, 1), of(0, 1, 1, -1), of(0, 1, 2, -1)},
		{of(0, 1, 1, -1, 2, 1), of(0, 1, 1, 1), of(0, 1, 3, 1)},
		{of(-1, 1, 1, 1), of(-1, -1, 1, -1), of(-2, -1, 0, -2, 2, -1)},
		{of(-1000, 1000000), of(-1000, -1000000), of(-2000, -1000000000000)},
		{of(1000, 1000000), of(1000, 1000000), of(2000, 1000000000000)},
		{row(64, 0, 1), of(0, -1, 1, 1), of(0, -1, 64, 1)},
	} {
		product, e := poly.Mul(c.a, c.b)
		check(t, "Mul", product, e, c.product)
	}
	square, e := poly.Mul(row(64, 0, 1000000), row(64, 0, 1000000))
	if e != api.OK || len(square) != 127 || square[63] != (api.Term{Exp: 63, Coef: 64000000000000}) {
		t.Error("the greatest product:", square, e)
	}
}

// P1.1: the first exponent is 0, its coefficient above 0.
func TestUnit(t *testing.T) {
	for _, c := range []struct{ a, unit []api.Term }{
		{nil, nil},
		{of(0, 1), of(0, 1)},
		{of(-3, 2), of(0, 2)},
		{of(4, -7), of(0, 7)},
		{of(0, -1, 1, 3, 2, -1), of(0, 1, 1, -3, 2, 1)},
		{of(-2, 1, 0, -3, 5, 1), of(0, 1, 2, -3, 7, 1)},
		{of(2, 5, 3, -5), of(0, 5, 1, -5)},
		{of(-1000, -1000000, 1000, 1000000), of(0, 1000000, 2000, -1000000)},
	} {
		unit, e := poly.Unit(c.a)
		check(t, "Unit", unit, e, c.unit)
	}
}

// P1.1: each exponent's sign is changed.
func TestFlip(t *testing.T) {
	for _, c := range []struct{ a, flipped []api.Term }{
		{nil, nil},
		{of(0, 5), of(0, 5)},
		{of(3, -2), of(-3, -2)},
		{of(-2, 1, 0, 2, 5, -3), of(-5, -3, 0, 2, 2, 1)},
		{of(-1000, 1, 1000, 2), of(-1000, 2, 1000, 1)},
	} {
		flipped, e := poly.Flip(c.a)
		check(t, "Flip", flipped, e, c.flipped)
	}
}

// P1.1: values where the variable is 1 or -1.
func TestAt(t *testing.T) {
	for _, c := range []struct {
		a         []api.Term
		one, less int
	}{
		{nil, 0, 0},
		{of(0, -4), -4, -4},
		{of(1, 3), 3, -3},
		{of(-1, 3), 3, -3},
		{of(-2, 3), 3, 3},
		{of(-3, 1, -2, 10, 0, 100, 1, 1000, 4, 10000), 11111, 9109},
		{of(-999, 1000000, 999, 1000000), 2000000, -2000000},
		{row(64, -1000, 1000000), 64000000, 0},
	} {
		one, e := poly.At(c.a, 1)
		less, f := poly.At(c.a, -1)
		if one != c.one || less != c.less || e != api.OK || f != api.OK {
			t.Errorf("At: %v: %v %v, %v %v", c.a, one, e, less, f)
		}
	}
}

// P1.1: At knows 1 and -1 alone; what is not in form is told first.
func TestAtRange(t *testing.T) {
	for _, where := range []int{0, 2, -2, 3, math.MaxInt, math.MinInt} {
		for _, a := range [][]api.Term{nil, of(0, 5), of(-2, 1, 3, 1)} {
			if n, e := poly.At(a, where); n != 0 || e != api.ErrRange {
				t.Errorf("At %d: %d, %v", where, n, e)
			}
		}
		if n, e := poly.At(of(0, 0), where); n != 0 || e != api.ErrForm {
			t.Errorf("At %d of a wrong one: %d, %v", where, n, e)
		}
	}
}

// P1.1: what may not be handed in is refused, on either side.
func TestWrongForms(t *testing.T) {
	good := of(0, 1, 2, 3)
	for _, w := range wrongOnes() {
		for _, both := range [][2][]api.Term{{w.a, good}, {good, w.a}, {w.a, nil}, {nil, w.a}, {w.a, w.a}} {
			sum, e := poly.Add(both[0], both[1])
			refused(t, "Add: "+w.what, sum, e, api.ErrForm)
			product, e := poly.Mul(both[0], both[1])
			refused(t, "Mul: "+w.what, product, e, api.ErrForm)
		}
		unit, e := poly.Unit(w.a)
		refused(t, "Unit: "+w.what, unit, e, api.ErrForm)
		flipped, e := poly.Flip(w.a)
		refused(t, "Flip: "+w.what, flipped, e, api.ErrForm)
		for _, where := range []int{1, -1} {
			if n, e := poly.At(w.a, where); n != 0 || e != api.ErrForm {
				t.Errorf("At %d: %s: %d, %v", where, w.what, n, e)
			}
		}
	}
}

// P1.1: what is just within the limits is not refused.
func TestGreatForms(t *testing.T) {
	for _, g := range greatOnes() {
		sum, e := poly.Add(g.a, nil)
		check(t, "Add: "+g.what, sum, e, g.a)
		sum, e = poly.Add(nil, g.a)
		check(t, "Add: "+g.what, sum, e, g.a)
		product, e := poly.Mul(g.a, of(0, 1))
		check(t, "Mul: "+g.what, product, e, g.a)
		product, e = poly.Mul(of(0, 1), g.a)
		check(t, "Mul: "+g.what, product, e, g.a)
		if unit, e := poly.Unit(g.a); e != api.OK || len(unit) != len(g.a) {
			t.Errorf("Unit: %s: %v, %v", g.what, unit, e)
		}
		flipped, e := poly.Flip(g.a)
		if e == api.OK {
			flipped, e = poly.Flip(flipped)
		}
		check(t, "Flip: "+g.what, flipped, e, g.a)
		if _, e := poly.At(g.a, -1); e != api.OK {
			t.Errorf("At: %s: %v", g.what, e)
		}
	}
}

// P1.1: sums and products may be put together as one likes; Flip and At go along with them.
func TestLaws(t *testing.T) {
	d := rolled(7)
	must := func(a []api.Term, e api.Errno) []api.Term {
		t.Helper()
		if e != api.OK {
			t.Fatal(e)
		}
		return a
	}
	value := func(a []api.Term, where int) int {
		n, e := poly.At(a, where)
		if e != api.OK {
			t.Fatal(e)
		}
		return n
	}
	for range 300 {
		a, b, c := d.poly(6), d.poly(6), d.poly(6)
		sum, product := must(poly.Add(a, b)), must(poly.Mul(a, b))
		if !slices.Equal(sum, must(poly.Add(b, a))) || !slices.Equal(product, must(poly.Mul(b, a))) {
			t.Error("either way round:", a, b)
		}
		left := must(poly.Mul(sum, c))
		right := must(poly.Add(must(poly.Mul(a, c)), must(poly.Mul(b, c))))
		if !slices.Equal(left, right) {
			t.Error("a product of a sum:", a, b, c)
		}
		if !slices.Equal(must(poly.Mul(product, c)), must(poly.Mul(a, must(poly.Mul(b, c))))) {
			t.Error("three multiplied:", a, b, c)
		}
		if !slices.Equal(must(poly.Flip(product)), must(poly.Mul(must(poly.Flip(a)), must(poly.Flip(b))))) {
			t.Error("flipped:", a, b)
		}
		for _, where := range []int{1, -1} {
			if value(product, where) != value(a, where)*value(b, where) || value(sum, where) != value(a, where)+value(b, where) {
				t.Error("values:", a, b, where)
			}
		}
	}
}
