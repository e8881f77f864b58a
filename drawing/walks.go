package drawing

// Has: is there such an arc?
func (w Drawing) Has(arc int) bool { return arc >= 1 && arc < len(w.To) }

// Ahead: the arc on which a strand goes on behind the crossing to which an arc leads.
func (w Drawing) Ahead(arc int) int { return w.Leaving(w.To[arc].Across()).Arc }

// Above: does an arc's strand go above at the crossing to which it leads?
func (w Drawing) Above(arc int) bool { return w.To[arc].Above() }

// Aside: the arc on which the other strand goes on behind the crossing to which an arc leads.
func (w Drawing) Aside(arc int) int {
	s := w.To[arc]
	if s.Above() {
		return w.Leaving(Spot{s.Cross, SideC}).Arc
	}
	out := SideB
	if ComesIn(w.Crosses[s.Cross], out) {
		out = SideD
	}
	return w.Leaving(Spot{s.Cross, out}).Arc
}

// Walks: of each part of the link that is no loop its arcs, from its lowest one on as its strand goes; in the order of these.
func (w Drawing) Walks() [][]int { return w.ArcRings(w.Ahead) }

// ArcRings: the rings of arcs that come of it when each arc leads on to another one, and no two to the same; each from its lowest arc on, in the order of these.
func (w Drawing) ArcRings(next func(arc int) int) [][]int {
	var rings [][]int
	seen := make([]bool, len(w.To))
	for first := 1; first < len(w.To); first++ {
		var ring []int
		for arc := first; !seen[arc]; arc = next(arc) {
			seen[arc] = true
			ring = append(ring, arc)
		}
		if len(ring) > 0 {
			rings = append(rings, ring)
		}
	}
	return rings
}
