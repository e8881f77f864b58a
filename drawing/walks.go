package drawing

// Has: is there such an arc?
func (w Drawing) Has(arc int) bool { return arc >= 1 && arc < len(w.To) }

// Ahead: the arc on which a strand goes on behind the crossing to which an arc leads.
func (w Drawing) Ahead(arc int) int { return w.Leaving(w.To[arc].Across()).Arc }

// Above: does an arc's strand go above at the crossing to which it leads?
func (w Drawing) Above(arc int) bool { return w.To[arc].Above() }

// Walks: of each part of the link that is no loop its arcs, from its lowest one on as its strand goes; in the order of these.
func (w Drawing) Walks() [][]int {
	var walks [][]int
	seen := make([]bool, len(w.To))
	for first := 1; first < len(w.To); first++ {
		var walk []int
		for arc := first; !seen[arc]; arc = w.Ahead(arc) {
			seen[arc] = true
			walk = append(walk, arc)
		}
		if len(walk) > 0 {
			walks = append(walks, walk)
		}
	}
	return walks
}
