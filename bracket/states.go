package bracket

import (
	"knotwork/api"
	"knotwork/drawing"
	"knotwork/terms"
)

// What a crossing is worth that is undone by A or by B: A to these powers.
const (
	byA = 1
	byB = -1
)

// ring: what each ring but one is worth.
var ring = worthOfRing()

// worthOfRing: of the four ways to undo both crossings that a Push makes, one
// ties as it was tied before. The other three tie alike, one of them with a ring
// beside: they must come to 0 together, for a Push changes nothing.
func worthOfRing() [2]api.Term {
	return [2]api.Term{{Exp: 2 * byB, Coef: -1}, {Exp: 2 * byA, Coef: -1}}
}

// rings: what so many of them are worth.
func rings(count int) terms.Work {
	each, all := ring, terms.Work{0: 1}
	for range count {
		all = all.Times(terms.Of(each[:]))
	}
	return all
}

// cut: the number of an arc's end that was cut off; all others have their arcs' numbers.
const cut = 2*maxCross + 1

// within: to what an arc is tied both of whose ends were met: it is no end of a strand any more.
const within = 0

// ties: of each arc the one at the other end of the strand that begins there, as far as crossings were undone. An arc that no crossing has met yet is a strand alone.
type ties [cut + 1]int

// untied: no crossing was undone.
func untied() ties {
	var t ties
	for arc := range t {
		t[arc] = arc
	}
	return t
}

// tied: the strands that end with x and y become one, or a ring is closed; how many rings are closed by it is told.
func (t ties) tied(x, y int) (ties, int) {
	a, b := t[x], t[y]
	t[x], t[y] = within, within
	if a == y {
		return t, 1
	}
	t[a], t[b] = b, a
	return t, 0
}

// sums: of all states that tie the same, what they are worth together.
type sums map[ties]terms.Work

// undone: what comes of it when one crossing more is undone, in both ways.
func (s sums) undone(arcs [4]int) sums {
	more := sums{}
	for t, worth := range s {
		more.add(t, worth.Times(terms.Work{byA: 1}), arcs, drawing.SideA)
		more.add(t, worth.Times(terms.Work{byB: 1}), arcs, drawing.SideB)
	}
	return more
}

// add states that tied as t ahead of a crossing: its arcs are tied two by two, from the first side on.
func (s sums) add(t ties, worth terms.Work, arcs [4]int, first int) {
	t, one := t.tied(arcs[first], arcs[first+1])
	t, other := t.tied(arcs[first+2], arcs[(first+3)%4])
	s[t] = s[t].Plus(worth.Times(rings(one + other)))
}

// all states together.
func (s sums) all() terms.Work {
	sum := terms.Work{}
	for _, worth := range s {
		sum = sum.Plus(worth)
	}
	return sum
}

// bracketOf a drawing. One ring has to be worth 1: it is the one along the first
// crossing's A, where an arc is cut, so that this ring is never closed; without
// crossings it is a loop.
func bracketOf(w drawing.Drawing) terms.Work {
	loops := w.Loops
	if len(w.Crosses) == 0 {
		loops--
	}
	s := sums{untied(): rings(loops)}
	for k, c := range w.Crosses {
		arcs := drawing.Arcs(c)
		if k == 0 {
			arcs[drawing.SideA] = cut
		}
		s = s.undone(arcs)
	}
	return s.all()
}
