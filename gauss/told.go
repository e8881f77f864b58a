package gauss

import (
	"knotwork/api"
	"knotwork/drawing"
)

// visits of each part that is no loop, as it goes from its lowest arc on.
func visits(w drawing.Drawing) [][]api.Visit {
	var parts [][]api.Visit
	for _, walk := range w.Walks() {
		part := make([]api.Visit, len(walk))
		for i, arc := range walk {
			part[i] = api.Visit{Cross: w.To[arc].Cross, Over: w.Above(arc)}
		}
		parts = append(parts, part)
	}
	return parts
}

// signs: of each crossing whether it is Plus.
func signs(w drawing.Drawing) []bool {
	plus := make([]bool, len(w.Crosses))
	for k, c := range w.Crosses {
		plus[k] = c.Plus
	}
	return plus
}

// evenNumbers of a knot's crossings, by their odd ones, with - ahead where the even visit goes above; ok: each crossing has one of both kinds.
func evenNumbers(knot []api.Visit) (l []int, ok bool) {
	even := make([]int, len(knot)/2)
	for i := 1; i < len(knot); i += 2 {
		number := i + 1
		if knot[i].Over {
			number = -number
		}
		even[knot[i].Cross] = number
	}
	// A crossing with two even numbers leaves another one with two odd ones, so
	// it is enough to look for these: such a crossing has no even number.
	for i := 0; i < len(knot); i += 2 {
		number := even[knot[i].Cross]
		if number == 0 {
			return nil, false
		}
		l = append(l, number)
	}
	return l, true
}
