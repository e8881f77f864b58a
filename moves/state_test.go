package moves_test

import (
	"math"
	"testing"

	"knotwork/api"
	"knotwork/moves"
	"knotwork/samples"
)

// wrongOnes: diagrams that may not be, and ones that lie on no sphere.
func wrongOnes() []api.Diagram {
	l := samples.TwistedOnes()
	for _, w := range samples.WrongOnes() {
		l = append(l, w.Diagram)
	}
	// What lies on a sphere beside it does not help.
	twisted := samples.OfText("X-[1,2,1,2]")
	return append(l, twisted, samples.Beside(samples.Trefoil(), twisted), samples.Beside(twisted, samples.Trefoil()), samples.Beside(twisted, samples.With(3)))
}

// anyMoves: of each kind, and of none; ones that could be done to some diagram, and wrong ones.
func anyMoves() []api.Move {
	l := []api.Move{push(along(1), along(2), true), push(along(2), back(1), false), push(along(99), along(1), true), push(along(1), along(1), true)}
	for _, kind := range []int{math.MinInt, -1, 0, 1, 2, 3, 4, 5, 6, 99, math.MaxInt} {
		for _, at := range []int{-1, 0, 1, 99} {
			for _, by := range []int{-1, 0, 1, 99} {
				l = append(l, api.Move{Kind: kind, At: at, By: by})
			}
		}
	}
	return l
}

// The chapter's opening: a diagram that may not be, or lies on no sphere, is refused ahead of all else, moves of no kind too.
func TestState(t *testing.T) {
	for _, d := range wrongOnes() {
		for _, m := range anyMoves() {
			if got, e := moves.Do(d, m); !refused(got, e, api.ErrState) {
				t.Error(d, m, got, e)
			}
		}
	}
}

// The chapter's opening: there are five kinds; any other one is refused ahead of what a move says.
func TestKind(t *testing.T) {
	for _, d := range []api.Diagram{samples.Trefoil(), samples.With(1), samples.Chain(16, true)} {
		for _, m := range anyMoves() {
			got, e := asByWords(t, d, m)
			if wrong := m.Kind < 1 || m.Kind > 5; wrong && !refused(got, e, api.ErrKind) || !wrong && e == api.ErrKind {
				t.Error(d, m, got, e)
			}
		}
	}
}

// The chapter's opening: what a move does not use may be told in any way.
func TestUnused(t *testing.T) {
	for _, d := range []api.Diagram{samples.OfText("X-[6,4,2,1] X-[1,2,5,3] X+[5,4,6,3] O"), samples.OfText("X+[6,2,1,5] X+[4,4,3,2] X+[3,6,5,1]"), samples.OfText("X-[1,2,2,1]")} {
		for _, m := range []api.Move{curl(1, 2), curl(0, 1), uncurl(0), uncurl(1), pull(1, 2), slide(0), slide(1), slide(2), push(along(2), back(1), true)} {
			want, why := moves.Do(d, m)
			for _, x := range []int{math.MinInt, -1, 1, 7, math.MaxInt} {
				got, e := moves.Do(d, withUnused(m, x))
				if e != why || !samples.Alike(got, want) {
					t.Error(d, m, x, got, e, "wanted:", want, why)
				}
			}
		}
	}
}

// withUnused: a move, with other numbers where it uses none.
func withUnused(m api.Move, x int) api.Move {
	if m.Kind == api.Push {
		m.At, m.By = x, x
		return m
	}
	m.U, m.V, m.Over = back(x), along(x), true
	if m.Kind == api.Uncurl || m.Kind == api.Slide {
		m.By = x
	}
	return m
}
