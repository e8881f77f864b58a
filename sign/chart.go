package sign

import (
	"knotwork/api"
	"knotwork/drawing"
)

// chart: a drawing of one piece, of which one may ask where its faces lie.
type chart struct {
	drawing.Drawing
	face  map[api.Dart]int // of each dart the one to its left
	shade []int            // of each face
}

// unshaded: what a face has ahead of its shade.
const unshaded = -1

// chartOf a diagram; or what is wrong with it.
func chartOf(d api.Diagram) (chart, api.Errno) {
	w, e := drawing.Single(d)
	if e != api.OK {
		return chart{}, e
	}
	c := chart{Drawing: w, face: map[api.Dart]int{}}
	rings := w.FaceRings()
	c.shade = make([]int, len(rings))
	for face, ring := range rings {
		c.shade[face] = unshaded
		for _, dart := range ring {
			c.face[dart] = face
		}
	}
	c.spread(0, 0)
	return c, api.OK
}

// spread a shade to a face, and the shades that come of it to all that are reached from there across arcs.
func (c chart) spread(face, shade int) {
	c.shade[face] = shade
	for dart := range c.Darts() {
		if c.face[dart] != face {
			continue
		}
		across := c.face[api.Dart{Arc: dart.Arc, Back: !dart.Back}]
		if c.shade[across] == unshaded {
			c.spread(across, 1-shade)
		}
	}
}

// corner: the face between a side of a crossing and the next one, counterclockwise.
func (c chart) corner(cross, side int) int {
	return c.face[c.Leaving(drawing.Spot{Cross: cross, Side: side})]
}

// worth of a crossing, and its two faces of the shade.
func (c chart) worth(cross, shade int) (worth, one, other int) {
	if one = c.corner(cross, drawing.SideB); c.shade[one] == shade {
		return 1, one, c.corner(cross, drawing.SideD)
	}
	return -1, c.corner(cross, drawing.SideA), c.corner(cross, drawing.SideC)
}

// goeritz: the table by the faces of a shade, and the correction.
func (c chart) goeritz(shade int) (table [][]int, correction int) {
	place, count := c.places(shade)
	table = square(count)
	for k, cross := range c.Crosses {
		worth, one, other := c.worth(k, shade)
		if i, j := place[one], place[other]; i != j {
			table[i][j] -= worth
			table[j][i] -= worth
			table[i][i] += worth
			table[j][j] += worth
		}
		if cross.Plus == (worth < 0) {
			correction += worth
		}
	}
	return table, correction
}

// places: of each face of a shade its place among them; and how many there are.
func (c chart) places(shade int) (place []int, count int) {
	place = make([]int, len(c.shade))
	for face, has := range c.shade {
		if has == shade {
			place[face] = count
			count++
		}
	}
	return place, count
}
