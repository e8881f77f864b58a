package wind_test

import (
	"slices"
	"testing"

	"knotwork/api"
	"knotwork/gauss"
	"knotwork/wind"
)

// equal: are both lists of lists the same?
func equal(a, b [][]int) bool { return slices.EqualFunc(a, b, slices.Equal[[]int]) }

// writhe of a diagram that has one.
func writhe(t *testing.T, d api.Diagram) int {
	t.Helper()
	n, e := wind.Writhe(d)
	if e != api.OK {
		t.Fatal(d, e)
	}
	return n
}

// linking of a diagram that has one: a square table, as far as parts come to crossings.
func linking(t *testing.T, d api.Diagram) [][]int {
	t.Helper()
	table, e := wind.Linking(d)
	if e != api.OK || len(table) != len(strands(d)) {
		t.Fatal(d, table, e)
	}
	for _, row := range table {
		if len(row) != len(table) {
			t.Fatal(d, table)
		}
	}
	return table
}

// circles of a diagram that has them.
func circles(t *testing.T, d api.Diagram) [][]int {
	t.Helper()
	rings, e := wind.Circles(d)
	if e != api.OK {
		t.Fatal(d, e)
	}
	return rings
}

// strands of a diagram that may be.
func strands(d api.Diagram) [][]int {
	l, _ := gauss.Strands(d)
	return l
}

// pieces of a diagram that may be: how many there are, by the arcs that crossings have in common.
func pieces(d api.Diagram) int {
	group := make([]int, 2*len(d.Crosses)+1)
	for arc := range group {
		group[arc] = arc
	}
	for _, c := range d.Crosses {
		for _, arc := range []int{c.B, c.C, c.D} {
			old := group[arc]
			for i := range group {
				if group[i] == old {
					group[i] = group[c.A]
				}
			}
		}
	}
	slices.Sort(group)
	return len(slices.Compact(group)) - 1 // of arc 0, which there is not
}
