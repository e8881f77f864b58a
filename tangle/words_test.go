package tangle_test

import (
	"slices"
	"testing"

	"knotwork/api"
	"knotwork/gauss"
)

// corner of a crossing; of none (-1): of the tangle at first.
type corner struct {
	cross int
	name  string
}

// joints: pairs of corners that lines join.
type joints [][2]corner

// other end of the line that begins at a corner.
func (j joints) other(c corner) corner {
	for _, pair := range j {
		if pair[0] == c {
			return pair[1]
		}
		if pair[1] == c {
			return pair[0]
		}
	}
	panic("a corner is tied to nothing")
}

// without a corner at which two lines meet: they are one; if it was one line alone, it is a loop.
func (j joints) without(c corner) (joints, int) {
	var left joints
	var ends []corner
	for _, pair := range j {
		if pair[0] == c && pair[1] == c {
			return slices.DeleteFunc(slices.Clone(j), func(p [2]corner) bool { return p == pair }), 1
		}
		switch c {
		case pair[0]:
			ends = append(ends, pair[1])
		case pair[1]:
			ends = append(ends, pair[0])
		default:
			left = append(left, pair)
		}
	}
	return append(left, [2]corner{ends[0], ends[1]}), 0
}

// drawnByWords: a list's link as P12.1 and P12.3 tell it: all lines, the places of each crossing, and how many loops there are.
func drawnByWords(l []int) (lines joints, places [][]string, loops int) {
	ends := map[string]corner{}
	for _, name := range []string{"nw", "ne", "sw", "se"} {
		ends[name] = corner{-1, name}
	}
	first := []corner{ends["nw"], ends["ne"], ends["sw"], ends["se"]}
	lines = joints{{first[0], first[1]}, {first[2], first[3]}}
	for i, x := range l {
		for range size(x) {
			k := len(places)
			tied := []string{"ne", "se"}
			corners := []string{"nw", "sw"}
			if i%2 == 1 {
				tied = []string{"sw", "se"}
				corners = []string{"nw", "ne"}
			}
			for j, end := range tied {
				lines = append(lines, [2]corner{ends[end], {k, corners[j]}})
			}
			for _, end := range tied {
				ends[end] = corner{k, end}
			}
			order := []string{"nw", "sw", "se", "ne"}
			if x < 0 {
				order = []string{"sw", "se", "ne", "nw"}
			}
			places = append(places, order)
		}
	}
	lines = append(lines, [2]corner{ends["nw"], ends["ne"]}, [2]corner{ends["sw"], ends["se"]})
	for _, c := range first {
		if slices.ContainsFunc(lines, func(p [2]corner) bool { return p[0] == c || p[1] == c }) {
			ring := 0
			lines, ring = lines.without(c)
			loops += ring
		}
	}
	return lines, places, loops
}

// way of a strand through a crossing, on a map: by the corner on which it comes in.
func way(in string) (east, north int) {
	switch in {
	case "nw":
		return 1, -1
	case "sw":
		return 1, 1
	case "ne":
		return -1, -1
	}
	return -1, 1
}

// linkByWords: the diagram that walks tell of; chapter 3 builds it.
func linkByWords(l []int) api.Diagram {
	lines, places, loops := drawnByWords(l)
	came := make([][2]string, len(places)) // below, above
	var parts [][]api.Visit
	for k, order := range places {
		for begin := range 2 {
			if came[k][begin] != "" {
				continue
			}
			var visits []api.Visit
			for at := (corner{k, order[begin]}); ; {
				i := slices.Index(places[at.cross], at.name)
				if came[at.cross][i%2] != "" {
					break
				}
				came[at.cross][i%2] = at.name
				visits = append(visits, api.Visit{Cross: at.cross, Over: i%2 == 1})
				at = lines.other(corner{at.cross, places[at.cross][(i+2)%4]})
			}
			parts = append(parts, visits)
		}
	}
	plus := make([]bool, len(places))
	for k, in := range came {
		belowEast, belowNorth := way(in[0])
		aboveEast, aboveNorth := way(in[1])
		plus[k] = aboveEast*belowNorth-aboveNorth*belowEast > 0 // who goes along the strand above sees the one below go to the left
	}
	d, e := gauss.Build(parts, plus, loops)
	if e != api.OK {
		panic(e.Error())
	}
	return d
}

// The means of these tests: a chart drawn by words, looked at by hand.
func TestDrawnByWords(t *testing.T) {
	lines, places, loops := drawnByWords([]int{1, -1, 0})
	if loops != 0 || len(lines) != 4 || len(places) != 2 {
		t.Fatal(lines, places, loops)
	}
	wanted := joints{{{0, "nw"}, {0, "ne"}}, {{0, "sw"}, {1, "nw"}}, {{0, "se"}, {1, "ne"}}, {{1, "sw"}, {1, "se"}}}
	for _, pair := range wanted {
		if lines.other(pair[0]) != pair[1] || lines.other(pair[1]) != pair[0] {
			t.Error(lines, "wanted:", pair)
		}
	}
	if lines, _, loops := drawnByWords([]int{0}); len(lines) != 0 || loops != 2 {
		t.Error(lines, loops)
	}
}
