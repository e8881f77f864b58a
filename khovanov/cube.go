package khovanov

import (
	"math/bits"

	"knotwork/api"
	"knotwork/terms"
)

// cube of states of a diagram without loops. The number of a state tells in its bits which crossings are undone by B.
type cube struct {
	api.Diagram
	states []rings
}

// marked state: all arcs of its rings with - are told, so that rings which stay as they are keep their marks by themselves.
type marked struct {
	state int
	minus arcs
}

// cubeOf a diagram.
func cubeOf(d api.Diagram) cube {
	c := cube{Diagram: d}
	for state := range 1 << len(c.Crosses) {
		c.states = append(c.states, c.undone(state))
	}
	return c
}

// undone: the rings that come of it when a state undoes all crossings.
func (c cube) undone(state int) rings {
	r := untied(2 * len(c.Crosses))
	for k, cross := range c.Crosses {
		if byB(state, k) {
			r.tie(cross.B, cross.C)
			r.tie(cross.D, cross.A)
		} else {
			r.tie(cross.A, cross.B)
			r.tie(cross.C, cross.D)
		}
	}
	return r
}

// byB: does a state undo that crossing by B?
func byB(state, cross int) bool { return state>>cross&1 == 1 }

// tellAll marked states.
func (c cube) tellAll(tell func(marked)) {
	for state, r := range c.states {
		all := []marked{{state: state}}
		for _, ring := range r.each() {
			for _, m := range all { // as many as there were ahead of this ring
				all = append(all, marked{state, m.minus | ring})
			}
		}
		for _, m := range all {
			tell(m)
		}
	}
}

// degrees of a marked state: X the first one, Z the second one.
func (c cube) degrees(m marked) terms.Pair {
	h := bits.OnesCount(uint(m.state))
	degrees := terms.Pair{X: h, Z: h}
	for _, cross := range c.Crosses {
		if cross.Plus {
			degrees.Z++
		} else {
			degrees.X--
			degrees.Z -= 2
		}
	}
	for _, ring := range c.states[m.state].each() {
		if m.minus&ring == 0 {
			degrees.Z++
		} else {
			degrees.Z--
		}
	}
	return degrees
}

// tellMade: of a marked state those that d makes; one that is told twice is not there.
func (c cube) tellMade(m marked, tell func(marked)) {
	for k := range c.Crosses {
		if !byB(m.state, k) {
			c.tellChanged(m, k, tell)
		}
	}
}

// tellChanged: what comes of a marked state when a crossing that it undoes by A is undone by B. Both ways, the places A and C lie on the rings there, be they one ring or two.
func (c cube) tellChanged(m marked, k int, tell func(marked)) {
	cross, next := c.Crosses[k], m.state|1<<k
	before, after := c.states[m.state], c.states[next]
	all := before[cross.A] | before[cross.C]
	minus := m.minus & all
	switch two := before[cross.A] != before[cross.C]; {
	case two && minus == all:
		// Of - and - nothing comes.
	case two && minus != 0:
		tell(marked{next, m.minus | all})
	case !two && minus == 0:
		tell(marked{next, m.minus | after[cross.A]})
		tell(marked{next, m.minus | after[cross.C]})
	default: // Rings that come of + and + have +, those that come of a - have -.
		tell(marked{next, m.minus})
	}
}

// ranks of the diagram: each marked state adds to those that are chosen freely. If d makes of it what it made of none before, one sum fewer has nothing made of it, and one more is made.
func (c cube) ranks() terms.Pairs {
	ranks, made := terms.Pairs{}, basis{}
	c.tellAll(func(m marked) {
		degrees := c.degrees(m)
		ranks[degrees]++
		image := sum{}
		c.tellMade(m, image.add)
		if made.grows(image) {
			ranks[degrees]--
			degrees.X++
			ranks[degrees]--
		}
	})
	return ranks
}
