package table_test

import (
	"slices"
	"testing"

	"knotwork/api"
	"knotwork/canon"
	"knotwork/code"
	"knotwork/moved"
	"knotwork/moves"
	"knotwork/samples"
	"knotwork/table"
)

// The chapter's limits.
const (
	fewest    = 3
	most      = 5
	mostDepth = 5
	mostCross = 8
)

// Short names of moves.
func uncurl(at int) api.Move   { return api.Move{Kind: api.Uncurl, At: at} }
func pull(at, by int) api.Move { return api.Move{Kind: api.Pull, At: at, By: by} }
func slide(at int) api.Move    { return api.Move{Kind: api.Slide, At: at} }

// texts of a table that there is.
func texts(t *testing.T, n int) []string {
	t.Helper()
	l, e := table.Table(n)
	if e != api.OK {
		t.Fatal(n, l, e)
	}
	return l
}

// formOf a diagram that may be: the text of its canonical form.
func formOf(d api.Diagram) string {
	form, e := canon.Canon(d)
	text, f := code.Show(form)
	if e != api.OK || f != api.OK {
		panic("no form")
	}
	return text
}

// way from a diagram that has one: what it may be made of, and what it leaves, is looked at.
func way(t *testing.T, d api.Diagram, depth int) []api.Move {
	t.Helper()
	l, e := table.Seek(d, depth)
	if e != api.OK || len(l) > depth {
		t.Fatal(d, depth, l, e)
	}
	for _, m := range l {
		if !slices.Contains([]api.Move{uncurl(m.At), pull(m.At, m.By), slide(m.At)}, m) {
			t.Fatal(d, depth, l)
		}
	}
	left, done, e := moves.Row(d, l)
	if e != api.OK || done != len(l) || !samples.Alike(left, samples.With(moved.Parts(d))) {
		t.Fatal(d, depth, l, left, done, e)
	}
	return l
}

// noWay: is it answered that there is none?
func noWay(t *testing.T, d api.Diagram, depth int) {
	t.Helper()
	if l, e := table.Seek(d, depth); len(l) != 0 || e != api.ErrNone {
		t.Fatal(d, depth, l, e)
	}
}

// shortest: has a diagram ways of so many moves, and none of fewer, at all depths? (-1: it has none.)
func shortest(t *testing.T, d api.Diagram, want int) {
	t.Helper()
	for depth := range mostDepth + 1 {
		if want < 0 || depth < want {
			noWay(t, d, depth)
		} else if l := way(t, d, depth); len(l) != want {
			t.Fatal(d, depth, l, "wanted:", want)
		}
	}
}

// byWay: the kinds of the moves of a way, at most as many as may be sought.
func byWay(d api.Diagram) []int {
	var kinds []int
	l, _ := table.Seek(d, mostDepth)
	for _, m := range l {
		kinds = append(kinds, m.Kind)
	}
	return kinds
}

// smallOnes: diagrams of at most so many crossings.
func smallOnes(crosses int) []api.Diagram {
	l := moved.UpTo(crosses)
	for i := range l {
		l[i].Loops = min(l[i].Loops+i%3, api.MaxLoops)
	}
	return l
}

// slidOnes: diagrams of which no way, or no shortest one, is made without a Slide: braids whose words do nothing, or little, if three letters in a row are told otherwise; their mirror images, and with other numbers.
func slidOnes() []api.Diagram {
	var l []api.Diagram
	die := samples.Die(161)
	for i, word := range [][]int{
		{1, 1, -2, -1, -2}, {1, -2, -2, 1, 2}, {2, 1, 2, -1, -1}, {-1, 2, 2, -1, -2},
		{1, 2, 1, -2, -1, -2}, {1, 1, 1, -2, -1, -2}, {1, 1, -2, -2, 1, 2}, {1, 2, 1, 1, -2, -2}, {3, 2, 1, -2, -2, 1}, {-1, -2, 3, 3, -2, -3},
		{2, 1, -2, -1, 1, -2, 1}, {1, 1, -1, -2, -2, 1, 2}, {-2, -1, 2, 3, 1, 2, -1},
		{-1, 1, 1, -2, -1, -2, 1, 2}, {1, -2, -1, -1, -2, 1, 1, 2},
	} {
		strands := 3
		if slices.Contains(word, 3) {
			strands = 4
		}
		d := samples.Weave(strands, word)
		d.Loops += i % 2
		l = append(l, d, samples.Renamed(&die, moved.Mirrored(d)))
	}
	return l
}
