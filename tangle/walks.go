package tangle

import (
	"knotwork/api"
	"knotwork/drawing"
)

// passed: what walks have found at a crossing: the arcs on its sides, which are as many as its corners (0: none yet), and on which sides its strands come in.
type passed struct {
	arcs         [corners]int
	below, above int
}

// walker: where walks go, and what they have found.
type walker struct {
	ties
	crosses []passed
	arcs    int // so many have numbers
}

// walked: the crossings of a link, whose strands and arcs have got directions and numbers by walks.
func walked(t ties, crosses int) []api.Cross {
	w := walker{ties: t, crosses: make([]passed, crosses)}
	for k := range w.crosses {
		w.walk(drawing.Spot{Cross: k, Side: drawing.SideA})
		w.walk(drawing.Spot{Cross: k, Side: drawing.SideB})
	}
	l := make([]api.Cross, crosses)
	for k, p := range w.crosses {
		l[k] = p.told()
	}
	return l
}

// walk in to a crossing and on, until it is back; nowhere, if that strand was walked.
func (w *walker) walk(first drawing.Spot) {
	for in := first; w.crosses[in.Cross].arcs[in.Side] == 0; in = w.ties[in.Across()] {
		w.arcs++
		w.number(in)
		w.number(w.ties[in])
		if in.Above() {
			w.crosses[in.Cross].above = in.Side
		} else {
			w.crosses[in.Cross].below = in.Side
		}
	}
}

// number the arc that ends at a spot.
func (w *walker) number(s drawing.Spot) { w.crosses[s.Cross].arcs[s.Side] = w.arcs }

// told: the crossing, from the side on which the strand below comes in.
func (p passed) told() api.Cross {
	c := api.Cross{A: p.arcs[drawing.SideA], B: p.arcs[drawing.SideB], C: p.arcs[drawing.SideC], D: p.arcs[drawing.SideD]}
	// The strand above comes in on D, if the next side is the one that becomes A.
	c.Plus = (p.above+1)%corners == p.below
	return drawing.Turned(c, p.below)
}
