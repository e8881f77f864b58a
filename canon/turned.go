package canon

import (
	"knotwork/api"
	"knotwork/drawing"
)

// mirrored drawing: at each crossing the other strand is above.
func mirrored(w drawing.Drawing) api.Diagram {
	d := api.Diagram{Loops: w.Loops}
	for _, c := range w.Crosses {
		above := drawing.SideB
		if c.Plus {
			above = drawing.SideD
		}
		m := drawing.Turned(c, above)
		m.Plus = !c.Plus
		d.Crosses = append(d.Crosses, m)
	}
	return d
}

// reversed drawing: that one of its walks runs the other way round.
func reversed(w drawing.Drawing, walks [][]int, part int) api.Diagram {
	parts := map[int]int{}
	for i, walk := range walks {
		for _, arc := range walk {
			parts[arc] = i
		}
	}
	d := api.Diagram{Loops: w.Loops}
	for _, c := range w.Crosses {
		below, above := parts[c.A] == part, parts[c.B] == part
		r := c
		if below {
			r = drawing.Turned(c, drawing.SideC)
		}
		if below != above {
			r.Plus = !c.Plus
		}
		d.Crosses = append(d.Crosses, r)
	}
	return d
}
