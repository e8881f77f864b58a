package alex

import (
	"knotwork/api"
	"knotwork/poly"
	"knotwork/terms"
)

// rows of a diagram's table: for each crossing one, with a place for each overpass.
func rows(d api.Diagram, over []int) [][][]api.Term {
	count := 0
	for _, o := range over {
		count = max(count, o+1)
	}
	table := make([][][]api.Term, len(d.Crosses))
	for k, c := range d.Crosses {
		table[k] = row(c, over, count)
	}
	return table
}

// row of a crossing. An overpass may come to it more than once, so terms are
// added to what its place has already.
func row(c api.Cross, over []int, count int) [][]api.Term {
	places := make([][]api.Term, count)
	add := func(arc int, more ...api.Term) {
		place := over[arc-1]
		places[place], _ = poly.Add(places[place], more)
	}
	in, out := c.A, c.C
	if !c.Plus {
		in, out = out, in
	}
	add(out, api.Term{Exp: 0, Coef: 1})
	add(in, api.Term{Exp: 1, Coef: -1})
	add(c.B, api.Term{Exp: 0, Coef: -1}, api.Term{Exp: 1, Coef: 1})
	return places
}

// minor of a table that has rows: without the last place of each, and without
// the last row, if it is one too many for a square. Too few for one: 0.
func minor(table [][][]api.Term) []api.Term {
	side := len(table[0]) - 1
	if side > len(table) {
		return nil
	}
	square := make([][][]api.Term, side)
	for i := range square {
		square[i] = table[i][:side]
	}
	return terms.Expanded(square).InForm()
}
