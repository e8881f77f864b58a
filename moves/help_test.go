package moves_test

import (
	"testing"

	"knotwork/api"
	"knotwork/canon"
	"knotwork/code"
	"knotwork/gauss"
	"knotwork/moves"
	"knotwork/samples"
)

// Short names of moves.
func curl(at, by int) api.Move { return api.Move{Kind: api.Curl, At: at, By: by} }
func uncurl(at int) api.Move   { return api.Move{Kind: api.Uncurl, At: at} }
func pull(at, by int) api.Move { return api.Move{Kind: api.Pull, At: at, By: by} }
func slide(at int) api.Move    { return api.Move{Kind: api.Slide, At: at} }
func push(u, v api.Dart, over bool) api.Move {
	return api.Move{Kind: api.Push, U: u, V: v, Over: over}
}

// planar: may a diagram be, and does it lie on a sphere?
func planar(d api.Diagram) bool {
	p, e := code.Planar(d)
	return p && e == api.OK
}

// parts of the link of a diagram that may be.
func parts(d api.Diagram) int {
	l, _ := gauss.Strands(d)
	return len(l) + d.Loops
}

// do a move that must be done: what comes of it lies on a sphere, and has as many parts.
func do(t *testing.T, d api.Diagram, m api.Move) api.Diagram {
	t.Helper()
	got, e := moves.Do(d, m)
	if e != api.OK || !planar(got) || parts(got) != parts(d) {
		t.Fatal(d, m, got, e)
	}
	return got
}

// refused: is nothing but that error answered?
func refused(d api.Diagram, e, want api.Errno) bool {
	return e == want && samples.Alike(d, api.Diagram{})
}

// asByWords: is a move done, or refused, as the chapter's words say? What is answered is told, too.
func asByWords(t *testing.T, d api.Diagram, m api.Move) (api.Diagram, api.Errno) {
	t.Helper()
	want, why := doByWords(d, m)
	got, e := moves.Do(d, m)
	if e != why || !samples.Alike(got, want) {
		t.Fatal(d, m, got, e, "wanted:", want, why)
	}
	if e == api.OK && (!planar(got) || parts(got) != parts(d)) {
		t.Fatal(d, m, got)
	}
	return got, e
}

// same: have two diagrams the same form?
func same(a, b api.Diagram) bool {
	s, e := canon.Same(a, b)
	return s && e == api.OK
}

// facesOf a diagram that may be.
func facesOf(d api.Diagram) [][]api.Dart {
	l, _ := code.Faces(d)
	return l
}

// show a diagram.
func show(d api.Diagram) string {
	s, e := code.Show(d)
	if e != api.OK {
		return e.Error()
	}
	return s
}

// eachAnswer: were there enough cases of each of these outcomes?
func eachAnswer(t *testing.T, count map[api.Errno]int, least int, outcomes ...api.Errno) {
	t.Helper()
	for _, e := range outcomes {
		if count[e] < least {
			t.Error("too few of", e, count)
		}
	}
}
