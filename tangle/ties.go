package tangle

import "knotwork/drawing"

// Corners of a crossing, and of the tangle.
const (
	northWest = iota
	northEast
	southWest
	southEast
	corners
)

// itself: what stands in place of a crossing in the spots that are the tangle's own ends; their sides are corners.
const itself = -1

// ties: to which end each end is tied: those of crossings, and the tangle's own.
type ties map[drawing.Spot]drawing.Spot

// tie two ends to one another.
func (t ties) tie(a, b drawing.Spot) { t[a], t[b] = b, a }

// lead an end of the tangle through a crossing: what was tied to the end is tied to the crossing's inner corner, and the end to its outer one.
func (t ties) lead(end int, inner, outer drawing.Spot) {
	own := drawing.Spot{Cross: itself, Side: end}
	t.tie(t[own], inner)
	t.tie(own, outer)
}

// join: two ends of the tangle are tied to one another; how many loops come of it is told.
func (t ties) join(a, b int) int {
	one, other := drawing.Spot{Cross: itself, Side: a}, drawing.Spot{Cross: itself, Side: b}
	if t[one] == other {
		return 1
	}
	t.tie(t[one], t[other])
	return 0
}

// cornersOf a crossing: which spots they are. The strand below has its ends at A and C.
func cornersOf(cross int, above bool) [corners]drawing.Spot {
	sides := [corners]int{southWest: drawing.SideA, southEast: drawing.SideB, northEast: drawing.SideC, northWest: drawing.SideD}
	if above {
		sides = [corners]int{northWest: drawing.SideA, southWest: drawing.SideB, southEast: drawing.SideC, northEast: drawing.SideD}
	}
	var spots [corners]drawing.Spot
	for corner, side := range sides {
		spots[corner] = drawing.Spot{Cross: cross, Side: side}
	}
	return spots
}

// twisted: the ties of a list's tangle, and how many crossings it has.
func twisted(l []int) (t ties, crosses int) {
	t = ties{}
	t.tie(drawing.Spot{Cross: itself, Side: northWest}, drawing.Spot{Cross: itself, Side: northEast})
	t.tie(drawing.Spot{Cross: itself, Side: southWest}, drawing.Spot{Cross: itself, Side: southEast})
	for i, number := range l {
		for range size(number) {
			at := cornersOf(crosses, number > 0)
			if i%2 == 0 { // to the right
				t.lead(northEast, at[northWest], at[northEast])
				t.lead(southEast, at[southWest], at[southEast])
			} else { // below
				t.lead(southWest, at[northWest], at[southWest])
				t.lead(southEast, at[northEast], at[southEast])
			}
			crosses++
		}
	}
	return t, crosses
}
