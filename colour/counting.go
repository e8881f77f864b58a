package colour

import (
	"slices"

	"knotwork/drawing"
)

// rule of three overpasses: the colour of from ▷ the colour of by is the colour of to.
type rule struct{ from, by, to int }

// rules of a drawing, one a crossing.
func rules(w drawing.Drawing, over []int) []rule {
	var l []rule
	for _, c := range w.Crosses {
		r := rule{over[c.A], over[c.B], over[c.C]}
		if !c.Plus {
			r.from, r.to = r.to, r.from
		}
		l = append(l, r)
	}
	return l
}

// painting: overpasses get their colours one by one, in an order in which most colours hang on those ahead of them.
type painting struct {
	quandle [][]int
	order   []int
	ready   [][]rule // of each place in the order: the rules all of whose overpasses have colours from there on
	colour  []int    // of each overpass
}

// plan of a painting of so many overpasses.
func plan(rules []rule, count int, q [][]int) painting {
	p := painting{q, nil, make([][]rule, count), make([]int, count)}
	placed := make([]bool, count)
	for at := range count {
		next := nextOver(rules, placed)
		placed[next] = true
		p.order = append(p.order, next)
		for _, r := range rules {
			if slices.Contains([]int{r.from, r.by, r.to}, next) && placed[r.from] && placed[r.by] && placed[r.to] {
				p.ready[at] = append(p.ready[at], r)
			}
		}
	}
	return p
}

// nextOver: an overpass that has no place yet: one whose colour a rule tells, or else the one that stands above most crossings, so that many will be told behind it.
func nextOver(rules []rule, placed []bool) int {
	above := make([]int, len(placed))
	for _, r := range rules {
		if placed[r.by] && placed[r.from] != placed[r.to] {
			if placed[r.from] {
				return r.to
			}
			return r.from
		}
		above[r.by]++
	}
	best := slices.Index(placed, false)
	for over := range len(placed) {
		if !placed[over] && above[over] > above[best] {
			best = over
		}
	}
	return best
}

// ways to colour what has its place from there on, as those ahead of it are coloured.
func (p painting) ways(place int) int {
	if place == len(p.order) {
		return 1
	}
	sum := 0
	for c := range len(p.quandle) {
		p.colour[p.order[place]] = c
		if p.holds(p.ready[place]) {
			sum += p.ways(place + 1)
		}
	}
	return sum
}

// holds: do the colours keep all of these rules?
func (p painting) holds(rules []rule) bool {
	for _, r := range rules {
		if p.quandle[p.colour[r.from]][p.colour[r.by]] != p.colour[r.to] {
			return false
		}
	}
	return true
}
