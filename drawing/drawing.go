// Package drawing: a diagram at work, of which one may ask where its arcs lead. The layers that walk diagrams stand on it.
package drawing

import (
	"iter"

	"knotwork/api"
)

// Sides of a crossing, counterclockwise, as api.Cross names its places.
const (
	SideA = iota
	SideB
	SideC
	SideD
	sides
)

// Spot: a side of a crossing.
type Spot struct{ Cross, Side int }

// Across: the spot on the other side of the crossing, to which the strand goes on.
func (s Spot) Across() Spot { return Spot{s.Cross, (s.Side + sides/2) % sides} }

// Above: is it the strand above that has an end there?
func (s Spot) Above() bool { return s.Side == SideB || s.Side == SideD }

// Drawing: a diagram that may be, and where each of its arcs begins and ends. Arcs are found by their numbers, so what stands first in both lists tells of none.
type Drawing struct {
	api.Diagram
	From, To []Spot
}

// nowhere: where an arc leads of which nothing was told yet.
const nowhere = -1

// Of a diagram its drawing; ok: it may be.
func Of(d api.Diagram) (w Drawing, ok bool) {
	n := len(d.Crosses)
	if n > api.MaxCross || d.Loops < 0 || d.Loops > api.MaxLoops || n+d.Loops == 0 {
		return Drawing{}, false
	}
	w = Drawing{Diagram: d, From: unknown(2*n + 1), To: unknown(2*n + 1)}
	for k, c := range d.Crosses {
		for side, arc := range Arcs(c) {
			// There are just 2n sides where strands come in, and 2n where they go
			// out: if no arc stands twice at either, none is missing there.
			ends := w.From
			if ComesIn(c, side) {
				ends = w.To
			}
			if arc < 1 || arc > 2*n || ends[arc].Cross != nowhere {
				return Drawing{}, false
			}
			ends[arc] = Spot{k, side}
		}
	}
	return w, true
}

// unknown: so many spots that are nowhere.
func unknown(n int) []Spot {
	l := make([]Spot, n)
	for i := range l {
		l[i].Cross = nowhere
	}
	return l
}

// Arcs of a crossing, by its sides.
func Arcs(c api.Cross) [sides]int { return [sides]int{c.A, c.B, c.C, c.D} }

// ComesIn: does a strand come in to the crossing on that side? (Else it goes out.)
func ComesIn(c api.Cross, side int) bool {
	switch side {
	case SideA:
		return true
	case SideB:
		return !c.Plus
	case SideD:
		return c.Plus
	}
	return false
}

// Darts of the drawing, in order.
func (w Drawing) Darts() iter.Seq[api.Dart] {
	return func(yield func(api.Dart) bool) {
		for arc := 1; arc < len(w.To); arc++ {
			if !yield(api.Dart{Arc: arc}) || !yield(api.Dart{Arc: arc, Back: true}) {
				return
			}
		}
	}
}

// End: the spot to which a dart comes.
func (w Drawing) End(d api.Dart) Spot {
	if d.Back {
		return w.From[d.Arc]
	}
	return w.To[d.Arc]
}

// Leaving: the dart that leaves a crossing on a side.
func (w Drawing) Leaving(s Spot) api.Dart {
	c := w.Crosses[s.Cross]
	return api.Dart{Arc: Arcs(c)[s.Side], Back: ComesIn(c, s.Side)}
}

// Onward: the dart behind a dart, along the face to its left.
func (w Drawing) Onward(d api.Dart) api.Dart {
	s := w.End(d)
	s.Side = (s.Side + sides - 1) % sides
	return w.Leaving(s)
}
