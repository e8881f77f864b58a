package table

import (
	"slices"

	"knotwork/api"
	"knotwork/canon"
	"knotwork/code"
	"knotwork/moves"
)

// step: a move, and the diagram that it leads to; without one ahead of it, the diagram
// from which the way begins.
type step struct {
	api.Diagram
	move  api.Move
	ahead *step
}

// row of the moves that lead to a step.
func (s *step) row() []api.Move {
	var l []api.Move
	for ; s.ahead != nil; s = s.ahead {
		l = append(l, s.move)
	}
	slices.Reverse(l)
	return l
}

// sought: the last step of a shortest way from a diagram to one without crossings, of so
// many moves at most; nil, if there is none.
func sought(d api.Diagram, depth int) *step {
	start := &step{Diagram: d}
	known := map[string]int{start.form(): 0}
	level := []*step{start}
	for done := range depth + 1 {
		var next []*step
		for _, s := range level {
			if len(s.Crosses) == 0 {
				return s
			}
			next = append(next, s.onward(known, depth-done-1)...)
		}
		level = next
	}
	return nil
}

// onward: the steps from here to forms that are not known yet, and from which so many
// moves may be enough. (Diagrams of one form have ways of one length.)
func (s *step) onward(known map[string]int, left int) []*step {
	var steps []*step
	for _, m := range s.tries() {
		d, e := moves.Do(s.Diagram, m)
		// No move takes out more than two crossings.
		if e != api.OK || len(d.Crosses) > 2*left {
			continue
		}
		next := &step{Diagram: d, move: m, ahead: s}
		form := next.form()
		if _, is := known[form]; !is {
			known[form] = len(known)
			steps = append(steps, next)
		}
	}
	return steps
}

// tries: all moves that a way might take from here; most of them are refused.
func (s *step) tries() []api.Move {
	var l []api.Move
	for at := range s.Crosses {
		l = append(l, api.Move{Kind: api.Uncurl, At: at})
	}
	for by := range s.Crosses {
		for at := range by {
			l = append(l, api.Move{Kind: api.Pull, At: at, By: by})
		}
	}
	faces, _ := code.Faces(s.Diagram)
	for at := range faces {
		l = append(l, api.Move{Kind: api.Slide, At: at})
	}
	return l
}

// form: the text of the canonical form.
func (s *step) form() string {
	d, _ := canon.Canon(s.Diagram)
	text, _ := code.Show(d)
	return text
}
