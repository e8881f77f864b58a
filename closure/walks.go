package closure

import "knotwork/api"

// Sides of a crossing whose strands both go upwards.
const (
	leftBelow = iota
	rightBelow
	leftAbove
	rightAbove
	sides
)

// crossing: the arcs on its sides.
type crossing [sides]int

// told: the crossing of a letter, from the side on which the strand below comes in.
func (c crossing) told(letter int) api.Cross {
	if letter > 0 {
		return api.Cross{A: c[rightBelow], B: c[rightAbove], C: c[leftAbove], D: c[leftBelow], Plus: true}
	}
	return api.Cross{A: c[leftBelow], B: c[rightBelow], C: c[rightAbove], D: c[leftAbove]}
}

// pass: a strand comes in to a crossing on a side, and goes out on another one.
type pass struct{ cross, in, out int }

// closed: the link of a word whose strands have these ends.
func closed(w, ends []int) api.Diagram {
	crossings, arcs, loops := make([]crossing, len(w)), 0, 0
	for _, places := range rings(ends) {
		var walk []pass
		for _, place := range places {
			walk = append(walk, climbed(w, place)...)
		}
		if len(walk) == 0 {
			loops++
		}
		number(crossings, walk, arcs)
		arcs += len(walk)
	}
	crosses := make([]api.Cross, len(w))
	for k, letter := range w {
		crosses[k] = crossings[k].told(letter)
	}
	return api.Diagram{Crosses: crosses, Loops: loops}
}

// rings of places below: each leads to the one where its strand ends. Each ring begins with its first place; they are in the order of these.
func rings(ends []int) [][]int {
	var all [][]int
	var walked [api.MaxStrands + 1]bool
	for first := 1; first <= len(ends); first++ {
		var ring []int
		for place := first; !walked[place]; place = ends[place-1] {
			walked[place] = true
			ring = append(ring, place)
		}
		if len(ring) > 0 {
			all = append(all, ring)
		}
	}
	return all
}

// climbed: how the strand that begins at a place below goes through crossings, up to its end.
func climbed(w []int, place int) []pass {
	var way []pass
	for k, letter := range w {
		switch size(letter) {
		case place:
			way = append(way, pass{k, leftBelow, rightAbove})
			place++
		case place - 1:
			way = append(way, pass{k, rightBelow, leftAbove})
			place--
		}
	}
	return way
}

// number the arcs of a walk, behind so many that have numbers: the one that leads in to its first crossing is the first, and goes out of its last one.
func number(crossings []crossing, walk []pass, behind int) {
	for i, p := range walk {
		next := (i + 1) % len(walk)
		crossings[p.cross][p.in] = behind + i + 1
		crossings[p.cross][p.out] = behind + next + 1
	}
}
