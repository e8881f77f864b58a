package alex_test

import (
	"slices"
	"testing"

	"knotwork/alex"
	"knotwork/api"
	"knotwork/colour"
	"knotwork/moved"
	"knotwork/poly"
)

// most crossings that the chapter takes.
const most = 10

type table = [][][]api.Term

// tableOf a diagram that has one.
func tableOf(t *testing.T, d api.Diagram) table {
	t.Helper()
	m, e := alex.Table(d)
	if e != api.OK || len(m) != len(d.Crosses) {
		t.Fatal(d, m, e)
	}
	return m
}

// alexander of a diagram that has one: it is as Unit tells it.
func alexander(t *testing.T, d api.Diagram) []api.Term {
	t.Helper()
	a, e := alex.Alexander(d)
	if e != api.OK {
		t.Fatal(d, e)
	}
	if u, e := poly.Unit(a); e != api.OK || !slices.Equal(u, a) {
		t.Fatal(d, a, e, "as Unit tells it:", u)
	}
	return a
}

// determinant of a diagram that has one.
func determinant(t *testing.T, d api.Diagram) int {
	t.Helper()
	n, e := alex.Determinant(d)
	if e != api.OK || n < 0 {
		t.Fatal(d, n, e)
	}
	return n
}

// read a polynomial's text.
func read(t *testing.T, s string) []api.Term {
	t.Helper()
	a, e := poly.Read(s)
	if e != api.OK {
		t.Fatal(s, e)
	}
	return a
}

// unit of a polynomial, which the poly package takes.
func unit(t *testing.T, a []api.Term) []api.Term {
	t.Helper()
	u, e := poly.Unit(a)
	if e != api.OK {
		t.Fatal(a, e)
	}
	return u
}

// valueAt: what a polynomial without exponents below 0 is at a number.
func valueAt(a []api.Term, x int) int {
	sum := 0
	for _, t := range a {
		product := t.Coef
		for range t.Exp {
			product *= x
		}
		sum += product
	}
	return sum
}

// overs of a diagram, and how many overpasses there are.
func overs(t *testing.T, d api.Diagram) (over []int, count int) {
	t.Helper()
	over, e := colour.Overs(d)
	if e != api.OK {
		t.Fatal(d, e)
	}
	for _, o := range over {
		count = max(count, o+1)
	}
	return over, count
}

// smallOnes: those of many diagrams that the chapter takes, some of just as many crossings as it takes, and some with two rings that lie upon all others.
func smallOnes() []api.Diagram { return moved.UpTo(most) }

// pieces: into how many a diagram's crossings fall.
func pieces(d api.Diagram) int {
	piece := make([]int, len(d.Crosses))
	for k := range piece {
		piece[k] = k
	}
	arcs := func(c api.Cross) []int { return []int{c.A, c.B, c.C, c.D} }
	for i, c := range d.Crosses {
		for j, other := range d.Crosses {
			if !slices.ContainsFunc(arcs(c), func(arc int) bool { return slices.Contains(arcs(other), arc) }) {
				continue
			}
			from, to := piece[i], piece[j]
			for k := range piece {
				if piece[k] == from {
					piece[k] = to
				}
			}
		}
	}
	slices.Sort(piece)
	return len(slices.Compact(piece))
}
