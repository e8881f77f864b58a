package poly_test

import (
	"slices"
	"testing"

	"knotwork/api"
	"knotwork/poly"
)

type table = [][][]api.Term

// blank: a square table of 0.
func blank(side int) table {
	m := make(table, side)
	for i := range m {
		m[i] = make([][]api.Term, side)
	}
	return m
}

// diagonal: a square table of 0, but for one polynomial at each place with itself.
func diagonal(side int, a []api.Term) table {
	m := blank(side)
	for i := range m {
		m[i][i] = a
	}
	return m
}

// slowDet: the determinant along the first row, by Add and Mul.
func slowDet(t *testing.T, m table) []api.Term {
	t.Helper()
	if len(m) == 0 {
		return of(0, 1)
	}
	var sum []api.Term
	for column, place := range m[0] {
		var rest table
		for _, row := range m[1:] {
			rest = append(rest, slices.Concat(row[:column], row[column+1:]))
		}
		part, e := poly.Mul(place, slowDet(t, rest))
		if e != api.OK {
			t.Fatal(e)
		}
		if column%2 == 1 {
			part, _ = poly.Mul(part, of(0, -1))
		}
		if sum, e = poly.Add(sum, part); e != api.OK {
			t.Fatal(e)
		}
	}
	return sum
}

// P1.2: determinants that are known.
func TestDet(t *testing.T) {
	one, less := of(0, 1), of(0, -1)
	for _, c := range []struct {
		what string
		m    table
		det  []api.Term
	}{
		{"no rows", nil, one},
		{"no rows, not nil", table{}, one},
		{"0", table{{nil}}, nil},
		{"one place", table{{of(-2, 3, 5, -1)}}, of(-2, 3, 5, -1)},
		{"two rows", table{{of(0, 2), of(1, 1)}, {of(-1, 3), of(2, 5)}}, of(0, -3, 2, 10)},
		{"two rows changed over", table{{nil, one}, {one, nil}}, less},
		{"a turn of three", table{{nil, one, nil}, {nil, nil, one}, {one, nil, nil}}, one},
		{"a turn of four", table{{nil, one, nil, nil}, {nil, nil, one, nil}, {nil, nil, nil, one}, {one, nil, nil, nil}}, less},
		{"two rows alike", table{{of(1, 1), of(2, 4)}, {of(1, 1), of(2, 4)}}, nil},
		{"as many rows as may be", diagonal(api.MaxSide, of(1, 2)), of(6, 64)},
		{"the greatest places", diagonal(api.MaxSide, of(1000, -100)), of(6000, 1000000000000)},
		{"the least exponents", diagonal(api.MaxSide, of(-1000, 1)), of(-6000, 1)},
		{"six rows of 0", blank(api.MaxSide), nil},
	} {
		det, e := poly.Det(c.m)
		check(t, "Det: "+c.what, det, e, c.det)
	}
}

// P1.2: against an expansion along the first row.
func TestDetSlowly(t *testing.T) {
	d := rolled(11)
	for side := range api.MaxSide + 1 {
		for range 12 {
			m := blank(side)
			for _, row := range m {
				for j := range row {
					row[j] = d.poly(3)
				}
			}
			det, e := poly.Det(m)
			check(t, "Det", det, e, slowDet(t, m))
		}
	}
}

// P1.2: the determinant of a product of tables is the product of theirs.
func TestDetOfProduct(t *testing.T) {
	d := rolled(13)
	for range 40 {
		a, b, both := blank(3), blank(3), blank(3)
		for i := range a {
			for j := range a {
				a[i][j], b[i][j] = d.poly(3), d.poly(3)
			}
		}
		for i := range a {
			for j := range a {
				for k := range a {
					part, _ := poly.Mul(a[i][k], b[k][j])
					both[i][j], _ = poly.Add(both[i][j], part)
				}
			}
		}
		x, e := poly.Det(a)
		y, f := poly.Det(b)
		want, g := poly.Mul(x, y)
		if e != api.OK || f != api.OK || g != api.OK {
			t.Fatal(e, f, g)
		}
		det, e := poly.Det(both)
		check(t, "Det of a product", det, e, want)
	}
}

// P1.2: too many rows, or a row that is not as long as there are rows.
func TestDetSize(t *testing.T) {
	one := of(0, 1)
	for _, c := range []struct {
		what string
		m    table
	}{
		{"too many rows", diagonal(api.MaxSide+1, one)},
		{"far too many rows", make(table, 1000)},
		{"an empty row", table{{}}},
		{"a row too long", table{{one, one}}},
		{"a row too short behind others", table{{one, one}, {one}}},
		{"a row too long behind others", table{{one, one}, {one, one, one}}},
		{"a row too short at the beginning", table{{one}, {one, one}}},
		{"as many places as a square has", table{{one, one, one}, {one}}},
		{"a row that is nil", table{{one, one}, nil}},
		{"ahead of a place that is not in form", table{{of(0, 0), one}, {one}}},
		{"ahead of a place that is too great", table{{of(0, 101)}, {one, one}}},
		{"too many rows, and places not in form", diagonal(api.MaxSide+1, of(0, 0))},
	} {
		det, e := poly.Det(c.m)
		refused(t, "Det: "+c.what, det, e, api.ErrSize)
	}
}

// P1.2: a place that may not be handed in, wherever it stands.
func TestDetForm(t *testing.T) {
	for _, w := range wrongOnes() {
		for i := range 3 {
			for j := range 3 {
				m := diagonal(3, of(0, 1))
				m[i][j] = w.a
				det, e := poly.Det(m)
				refused(t, "Det: "+w.what, det, e, api.ErrForm)
			}
		}
	}
	m := table{{of(0, 101), nil}, {nil, of(0, 0)}}
	det, e := poly.Det(m)
	refused(t, "Det: not in form behind a place that is too great", det, e, api.ErrForm)
}

// P1.2: a place's coefficients' sizes, together.
func TestDetRange(t *testing.T) {
	for _, a := range [][]api.Term{of(0, 100), of(0, -100), of(-3, 50, 4, -50), of(0, 99, 1, 1), append(row(63, 0, 1), of(90, -37)...)} {
		det, e := poly.Det(table{{a}})
		check(t, "Det at the limit", det, e, a)
	}
	for _, a := range [][]api.Term{of(0, 101), of(0, -101), of(-3, 51, 4, -50), of(0, 100, 1, 1), append(row(63, 0, 1), of(90, -38)...), of(0, 1000000, 1, -1000000)} {
		for i := range 3 {
			for j := range 3 {
				m := diagonal(3, of(0, 1))
				m[i][j] = a
				det, e := poly.Det(m)
				refused(t, "Det beyond the limit", det, e, api.ErrRange)
			}
		}
	}
}

// P1.2: the greatest table there is: its terms are many, and it ends.
func TestDetGreatest(t *testing.T) {
	d := rolled(17)
	m := blank(api.MaxSide)
	values := blank(api.MaxSide)
	for i := range m {
		for j := range m {
			exp := -api.MaxExp
			for range api.MaxTerms {
				m[i][j] = append(m[i][j], api.Term{Exp: exp, Coef: 1 - 2*d.Below(2)})
				exp += 1 + d.Below(30)
			}
			if n, _ := poly.At(m[i][j], -1); n != 0 {
				values[i][j] = of(0, n)
			}
		}
	}
	det, e := poly.Det(m)
	if e != api.OK {
		t.Fatal(e)
	}
	sum := 0
	for _, term := range det {
		sum += term.Coef * (1 - 2*(term.Exp&1))
	}
	atLess, e := poly.Det(values)
	check(t, "the table of values at -1", atLess, e, of(0, sum))
}
