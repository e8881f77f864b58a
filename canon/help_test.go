package canon_test

import (
	"slices"
	"testing"

	"knotwork/api"
	"knotwork/canon"
	"knotwork/code"
	"knotwork/gauss"
	"knotwork/samples"
)

// places of a crossing, from A to D.
func places(c api.Cross) []int { return []int{c.A, c.B, c.C, c.D} }

// crossOf places, from A to D.
func crossOf(l []int, plus bool) api.Cross {
	return api.Cross{A: l[0], B: l[1], C: l[2], D: l[3], Plus: plus}
}

// form: the canonical form of a diagram, which must have one.
func form(t *testing.T, d api.Diagram) api.Diagram {
	t.Helper()
	c, e := canon.Canon(d)
	if e != api.OK {
		t.Fatal(d, e)
	}
	return c
}

// same: have both diagrams, which may be, the same form?
func same(t *testing.T, a, b api.Diagram) bool {
	t.Helper()
	s, e := canon.Same(a, b)
	if e != api.OK {
		t.Fatal(a, b, e)
	}
	return s
}

// strands of a diagram that may be.
func strands(t *testing.T, d api.Diagram) [][]int {
	t.Helper()
	l, e := gauss.Strands(d)
	if e != api.OK {
		t.Fatal(d, e)
	}
	return l
}

// planar: does a diagram that may be lie on a sphere?
func planar(t *testing.T, d api.Diagram) bool {
	t.Helper()
	p, e := code.Planar(d)
	if e != api.OK {
		t.Fatal(d, e)
	}
	return p
}

// refused: is nothing but that error answered?
func refused(d api.Diagram, e, want api.Errno) bool {
	return e == want && samples.Alike(d, api.Diagram{})
}

// isOne: can crossings and arcs of one diagram be named such that it is the other one? Each crossing of the one is tried against each of the other.
func isOne(a, b api.Diagram) bool {
	if len(a.Crosses) != len(b.Crosses) || a.Loops != b.Loops {
		return false
	}
	return fits(a.Crosses, b.Crosses, map[int]int{})
}

// fits: can all of the crossings be set against one another, arcs being named as told, and those of which nothing is told in any way?
func fits(a, b []api.Cross, named map[int]int) bool {
	if len(a) == 0 {
		return true
	}
	for j, c := range b {
		wider, ok := naming(a[0], c, named)
		if ok && fits(a[1:], slices.Concat(b[:j], b[j+1:]), wider) {
			return true
		}
	}
	return false
}

// naming of arcs, with those of a crossing that is set against another one; ok: no arc has two names, and no two have one.
func naming(a, b api.Cross, named map[int]int) (wider map[int]int, ok bool) {
	wider = map[int]int{}
	back := map[int]int{}
	for arc, name := range named {
		wider[arc], back[name] = name, arc
	}
	for i, arc := range places(a) {
		name := places(b)[i]
		if wider[arc] == 0 && back[name] == 0 {
			wider[arc], back[name] = name, arc
		}
		if wider[arc] != name {
			return nil, false
		}
	}
	return wider, a.Plus == b.Plus
}
