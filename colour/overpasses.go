package colour

import "knotwork/drawing"

// overpasses: of each arc its overpass, found by the arc's number, so what stands first tells of none; and how many there are.
func overpasses(w drawing.Drawing) (over []int, count int) {
	lowest := lowestArcs(w)
	over = make([]int, len(lowest))
	for arc := 1; arc < len(over); arc++ {
		if lowest[arc] < arc {
			over[arc] = over[lowest[arc]]
			continue
		}
		over[arc] = count
		count++
	}
	return over, count
}

// lowestArcs: of each arc the lowest one of its overpass.
func lowestArcs(w drawing.Drawing) []int {
	lowest := make([]int, len(w.To))
	for arc := range lowest {
		lowest[arc] = arc
	}
	for _, c := range w.Crosses {
		low, high := min(lowest[c.B], lowest[c.D]), max(lowest[c.B], lowest[c.D])
		for arc := range lowest {
			if lowest[arc] == high {
				lowest[arc] = low
			}
		}
	}
	return lowest
}
