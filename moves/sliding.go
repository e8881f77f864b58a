package moves

import (
	"knotwork/api"
	"knotwork/drawing"
)

// slide the strands around a face of three darts.
func (b bench) slide(m api.Move) api.Diagram {
	rings := b.FaceRings()
	need(m.At >= 0 && m.At < len(rings), api.ErrRange)
	ring := rings[m.At]
	need(b.triangle(ring) && b.layered(ring), api.ErrNone)
	arcs := map[drawing.Spot]int{}
	for _, d := range ring {
		goesOut, comesIn := b.From[d.Arc], b.To[d.Arc]
		into, outOf := goesOut.Across(), comesIn.Across()
		arcs[into], arcs[goesOut] = d.Arc, b.Leaving(outOf).Arc
		arcs[comesIn], arcs[outOf] = b.Leaving(into).Arc, d.Arc
	}
	return api.Diagram{Crosses: b.relaid(arcs), Loops: b.Loops}
}

// triangle: has a ring three darts, whose ends are unlike crossings?
func (b bench) triangle(ring []api.Dart) bool {
	if len(ring) != 3 {
		return false
	}
	x, y, z := b.End(ring[0]).Cross, b.End(ring[1]).Cross, b.End(ring[2]).Cross
	return x != y && y != z && z != x
}
