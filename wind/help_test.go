package wind_test

import (
	"slices"
	"testing"

	"knotwork/api"
	"knotwork/canon"
	"knotwork/code"
	"knotwork/gauss"
	"knotwork/moves"
	"knotwork/samples"
	"knotwork/wind"
)

// equal: are both lists of lists the same?
func equal(a, b [][]int) bool { return slices.EqualFunc(a, b, slices.Equal[[]int]) }

// writhe of a diagram that has one.
func writhe(t *testing.T, d api.Diagram) int {
	t.Helper()
	n, e := wind.Writhe(d)
	if e != api.OK {
		t.Fatal(d, e)
	}
	return n
}

// linking of a diagram that has one: a square table, as far as parts come to crossings.
func linking(t *testing.T, d api.Diagram) [][]int {
	t.Helper()
	table, e := wind.Linking(d)
	if e != api.OK || len(table) != len(strands(d)) {
		t.Fatal(d, table, e)
	}
	for _, row := range table {
		if len(row) != len(table) {
			t.Fatal(d, table)
		}
	}
	return table
}

// circles of a diagram that has them.
func circles(t *testing.T, d api.Diagram) [][]int {
	t.Helper()
	rings, e := wind.Circles(d)
	if e != api.OK {
		t.Fatal(d, e)
	}
	return rings
}

// strands of a diagram that may be.
func strands(d api.Diagram) [][]int {
	l, _ := gauss.Strands(d)
	return l
}

// pieces of a diagram that may be: how many there are, by the arcs that crossings have in common.
func pieces(d api.Diagram) int {
	group := make([]int, 2*len(d.Crosses)+1)
	for arc := range group {
		group[arc] = arc
	}
	for _, c := range d.Crosses {
		for _, arc := range []int{c.B, c.C, c.D} {
			old := group[arc]
			for i := range group {
				if group[i] == old {
					group[i] = group[c.A]
				}
			}
		}
	}
	slices.Sort(group)
	return len(slices.Compact(group)) - 1 // of arc 0, which there is not
}

// drawnOnes: many diagrams on a sphere: braids' closures with parts that run against one another, what moves make of them, sums, several pieces, loops.
func drawnOnes(t *testing.T) []api.Diagram {
	t.Helper()
	die := samples.Die(61)
	l := samples.FlatOnes()
	for i := range 300 {
		d := samples.Woven(&die, 9)
		for part := range strands(d) {
			if die.Below(2) == 1 {
				d, _ = canon.Reverse(d, part)
			}
		}
		for range i % 4 {
			d = worked(&die, d)
		}
		if i%5 == 0 && len(d.Crosses) <= api.MaxCross-3 {
			d = samples.Beside(d, samples.Woven(&die, 3))
		}
		l = append(l, samples.Renamed(&die, d))
	}
	for _, d := range l {
		if planar, e := code.Planar(d); !planar || e != api.OK {
			t.Fatal(d, "lies on no sphere:", e)
		}
	}
	return l
}

// worked: a diagram after a move that gives it crossings, if there is room for them.
func worked(die *samples.Die, d api.Diagram) api.Diagram {
	faces, _ := code.Faces(d)
	face := faces[die.Below(len(faces))]
	m := api.Move{Kind: api.Push, U: face[die.Below(len(face))], V: face[die.Below(len(face))], Over: die.Below(2) == 1}
	if m.U.Arc == m.V.Arc {
		m = api.Move{Kind: api.Curl, At: m.U.Arc, By: die.Below(4)}
	}
	if more, e := moves.Do(d, m); e == api.OK {
		return more
	}
	return d
}

// curls: a loop with so many curls of one way.
func curls(n, by int) api.Diagram {
	d, _ := moves.Do(samples.With(1), api.Move{Kind: api.Curl, By: by})
	for range n - 1 {
		d, _ = moves.Do(d, api.Move{Kind: api.Curl, At: 1, By: by})
	}
	return d
}
