package drawing

import "knotwork/api"

// crossOf arcs, by their sides.
func crossOf(arcs [sides]int, plus bool) api.Cross {
	return api.Cross{A: arcs[SideA], B: arcs[SideB], C: arcs[SideC], D: arcs[SideD], Plus: plus}
}

// Turned: the crossing told from another side on: the arc on that side stands at A, the others go on counterclockwise.
func Turned(c api.Cross, first int) api.Cross {
	var turned [sides]int
	for side, arc := range Arcs(c) {
		turned[(side+sides-first)%sides] = arc
	}
	return crossOf(turned, c.Plus)
}

// Renumbered: the crossing with other numbers of its arcs, which are asked for one by one, from A to D.
func Renumbered(c api.Cross, number func(side, arc int) int) api.Cross {
	var renumbered [sides]int
	for side, arc := range Arcs(c) {
		renumbered[side] = number(side, arc)
	}
	return crossOf(renumbered, c.Plus)
}
