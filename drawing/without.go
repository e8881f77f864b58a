package drawing

import (
	"slices"

	"knotwork/api"
)

// Without some crossings: each arc that led to one of them is one with the arc that next tells. Of arcs that are one the least number is left; then they are numbered from 1 on, in that order. Rings that come to no crossing are loops, be they more than may be.
func (w Drawing) Without(next func(arc int) int, gone ...int) api.Diagram {
	least := w.united(next, gone)
	stands := make([]bool, len(least))
	for arc, to := range w.To {
		stands[least[arc]] = stands[least[arc]] || !slices.Contains(gone, to.Cross)
	}
	d, numbers, number := api.Diagram{Loops: w.Loops}, make([]int, len(least)), 1
	for arc := 1; w.Has(arc); arc++ {
		switch {
		case least[arc] < arc:
			numbers[arc] = numbers[least[arc]]
		case stands[arc]:
			numbers[arc] = number
			number++
		default: // a ring that comes to no crossing
			d.Loops++
		}
	}
	for k, c := range w.Crosses {
		if !slices.Contains(gone, k) {
			d.Crosses = append(d.Crosses, Renumbered(c, func(_, arc int) int { return numbers[arc] }))
		}
	}
	return d
}

// united: by arcs, of those that are one when some crossings are gone the least.
func (w Drawing) united(next func(arc int) int, gone []int) []int {
	least := make([]int, len(w.To))
	for arc := range least {
		least[arc] = arc
	}
	for arc := 1; w.Has(arc); arc++ {
		if !slices.Contains(gone, w.To[arc].Cross) {
			continue
		}
		x, y := least[arc], least[next(arc)]
		for i := range least {
			if least[i] == max(x, y) {
				least[i] = min(x, y)
			}
		}
	}
	return least
}
