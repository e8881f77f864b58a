package canon

import (
	"knotwork/api"
	"knotwork/drawing"
)

// tied: both drawings as one, in which an arc of each leads to where the other one led.
func tied(a drawing.Drawing, x int, b drawing.Drawing, y int) api.Diagram {
	d := api.Diagram{Loops: a.Loops + b.Loops}
	lay := func(w drawing.Drawing, more, cut, other int) {
		for _, c := range w.Crosses {
			d.Crosses = append(d.Crosses, drawing.Renumbered(c, func(side, arc int) int {
				if arc == cut && drawing.ComesIn(c, side) {
					return other
				}
				return arc + more
			}))
		}
	}
	more := 2 * len(a.Crosses)
	lay(a, 0, x, y+more)
	lay(b, more, y, x)
	return d
}
