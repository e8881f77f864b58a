package drawing

import "knotwork/api"

// FaceRings: the rings of darts around the faces, each from its least dart on, in the order of these.
func (w Drawing) FaceRings() [][]api.Dart {
	var rings [][]api.Dart
	seen := make([][2]bool, len(w.To))
	for first := range w.Darts() {
		var ring []api.Dart
		for d := first; !seen[d.Arc][way(d)]; d = w.Onward(d) {
			seen[d.Arc][way(d)] = true
			ring = append(ring, d)
		}
		if len(ring) > 0 {
			rings = append(rings, ring)
		}
	}
	return rings
}

// way of a dart: 0 its arc's own, 1 back.
func way(d api.Dart) int {
	if d.Back {
		return 1
	}
	return 0
}

// Pieces: of each crossing the number of its piece; and how many there are. They are numbered from 0 on, by their first crossings.
func (w Drawing) Pieces() ([]int, int) {
	piece := make([]int, len(w.Crosses))
	for k := range piece {
		piece[k] = nowhere
	}
	count := 0
	for k := range piece {
		if piece[k] == nowhere {
			w.spread(piece, k, count)
			count++
		}
	}
	return piece, count
}

// spread a piece's number from a crossing to all that arcs join to it.
func (w Drawing) spread(piece []int, first, number int) {
	piece[first] = number
	for todo := []int{first}; len(todo) > 0; {
		k := todo[0]
		todo = todo[1:]
		for side := range sides {
			next := w.End(w.Leaving(Spot{k, side})).Cross
			if piece[next] == nowhere {
				piece[next] = number
				todo = append(todo, next)
			}
		}
	}
}

// OnSphere: has each piece two more faces than crossings?
func (w Drawing) OnSphere() bool {
	piece, count := w.Pieces()
	excess := make([]int, count)
	for _, p := range piece {
		excess[p]--
	}
	for _, ring := range w.FaceRings() {
		excess[piece[w.End(ring[0]).Cross]]++
	}
	for _, e := range excess {
		if e != 2 {
			return false
		}
	}
	return true
}

// Flat: a diagram's drawing on a sphere; or what is wrong with it: it may not be, or it has none there.
func Flat(d api.Diagram) (Drawing, api.Errno) {
	w, ok := Of(d)
	if !ok {
		return Drawing{}, api.ErrState
	}
	if !w.OnSphere() {
		return Drawing{}, api.ErrPlane
	}
	return w, api.OK
}

// Single: a drawing on a sphere, of one piece and without loops; or what is wrong with the diagram: as Flat tells, or it is of another kind.
func Single(d api.Diagram) (Drawing, api.Errno) {
	w, e := Flat(d)
	if e != api.OK {
		return Drawing{}, e
	}
	if _, pieces := w.Pieces(); pieces != 1 || w.Loops > 0 {
		return Drawing{}, api.ErrKind
	}
	return w, api.OK
}
