package wind

import (
	"knotwork/api"
	"knotwork/drawing"
)

// sign of a crossing: 1 of Plus, else -1.
func sign(c api.Cross) int {
	if c.Plus {
		return 1
	}
	return -1
}

// circles: the rings of arcs, when at each crossing both strands go on along one another's ways.
func circles(w drawing.Drawing) [][]int { return w.ArcRings(w.Aside) }

// links: of each part and each part how often they wind around one another.
func links(w drawing.Drawing) [][]int {
	walks := w.Walks()
	table := make([][]int, len(walks))
	for i := range table {
		table[i] = make([]int, len(walks))
	}
	part := partsOf(w, walks)
	for _, c := range w.Crosses {
		below, above := part[c.A], part[c.B]
		table[below][above] += sign(c)
		if below != above {
			table[above][below] += sign(c)
		}
	}
	// On a sphere two parts meet an even number of times, so nothing is lost.
	for i, row := range table {
		for j := range row {
			if i != j {
				row[j] /= 2
			}
		}
	}
	return table
}

// partsOf: of each arc the part whose walk has it.
func partsOf(w drawing.Drawing, walks [][]int) []int {
	part := make([]int, len(w.To))
	for i, walk := range walks {
		for _, arc := range walk {
			part[arc] = i
		}
	}
	return part
}
