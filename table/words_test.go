package table_test

import (
	"slices"
	"testing"

	"knotwork/api"
	"knotwork/code"
	"knotwork/moved"
	"knotwork/moves"
	"knotwork/samples"
)

// ends: at which places a strand comes in or goes out above, and below.
func ends(c api.Cross) (inAbove, outAbove, inBelow, outBelow int) {
	if c.Plus {
		return c.D, c.B, c.A, c.C
	}
	return c.B, c.D, c.A, c.C
}

// alternating, by the chapter's words: does each arc lead from above to below, or from below to above?
func alternating(d api.Diagram) bool {
	from, to := map[int]int{}, map[int]int{}
	const above, below = 1, 2
	for _, c := range d.Crosses {
		inAbove, outAbove, inBelow, outBelow := ends(c)
		to[inAbove], from[outAbove], to[inBelow], from[outBelow] = above, above, below, below
	}
	for arc := range from {
		if from[arc] == to[arc] {
			return false
		}
	}
	return true
}

// The means of these tests: which diagrams are alternating, by hand.
func TestAlternating(t *testing.T) {
	for s, want := range map[string]bool{
		"X-[1,4,2,5] X-[3,6,4,1] X-[5,2,6,3]": true,
		"X+[4,2,5,1] X-[3,6,4,1] X-[5,2,6,3]": false,
		"X-[1,2,2,1]":                         true,
		"X+[4,2,1,3] X+[2,4,3,1]":             true,
		"X+[3,2,1,4] X-[1,2,3,4]":             false,
		"O":                                   true,
	} {
		if d := samples.OfText(s); alternating(d) != want {
			t.Error(s, "wanted:", want)
		}
	}
}

// orders of the numbers from 0 on, below n.
func orders(n int) [][]int {
	all := [][]int{nil}
	for range n {
		var longer [][]int
		for _, l := range all {
			for k := range n {
				if !slices.Contains(l, k) {
					longer = append(longer, append(slices.Clip(l), k))
				}
			}
		}
		all = longer
	}
	return all
}

// tied: a crossing for each sign; its strand above leads to the strand below at the crossing that down tells, and its strand below to the strand above at the one that up tells.
func tied(plus int, down, up []int) api.Diagram {
	n := len(down)
	inAbove, inBelow := make([]int, n), make([]int, n)
	for k := range n {
		inBelow[down[k]], inAbove[up[k]] = 1+k, 1+n+k
	}
	var d api.Diagram
	for k := range n {
		c := api.Cross{A: inBelow[k], B: inAbove[k], C: 1 + n + k, D: 1 + k}
		if plus>>k&1 == 1 {
			c.B, c.D, c.Plus = c.D, c.B, true
		}
		d.Crosses = append(d.Crosses, c)
	}
	return d
}

// oneRing: does a walk by both orders, in turn, go through all crossings?
func oneRing(down, up []int) bool {
	count, at := 0, 0
	for count == 0 || at != 0 {
		count, at = count+1, up[down[at]]
	}
	return count == len(down)
}

// P16.1: by its words: all diagrams whose arcs lead from above to below and from below to above are tied, however numbered; those that are knots, and lie on a sphere, and of which nothing can be taken out, are told.
func TestTableByWords(t *testing.T) {
	for n := fewest; n <= most; n++ {
		forms := map[string]int{}
		all := orders(n)
		for _, down := range all {
			for _, up := range all {
				if !oneRing(down, up) {
					continue
				}
				for plus := range 1 << n {
					d := tied(plus, down, up)
					if planar, e := code.Planar(d); e != api.OK || !planar {
						if e != api.OK {
							t.Fatal(d, e)
						}
						continue
					}
					if !alternating(d) || !moved.Knot(d) {
						t.Fatal(d)
					}
					if _, taken, _ := moves.Simple(d); len(taken) == 0 {
						forms[formOf(d)]++
					}
				}
			}
		}
		var want []string
		for s := range forms {
			want = append(want, s)
		}
		slices.Sort(want)
		if got := texts(t, n); !slices.Equal(got, want) {
			t.Error(n, got, "wanted:", want)
		}
	}
}

// everyMove that a way may be made of, at all crossings, pairs and faces.
func everyMove(d api.Diagram) []api.Move {
	var l []api.Move
	for at := range d.Crosses {
		l = append(l, uncurl(at))
		for by := range d.Crosses {
			l = append(l, pull(at, by))
		}
	}
	for at := range 2*len(d.Crosses) + 2 {
		l = append(l, slide(at))
	}
	return l
}

// fewestMoves, by the chapter's words: of all rows of at most so many moves the length of the shortest one that leaves no crossing; -1: there is none.
func fewestMoves(d api.Diagram, depth int) int {
	if len(d.Crosses) == 0 {
		return 0
	}
	best := -1
	for _, m := range everyMove(d) {
		if depth == 0 {
			break
		}
		next, e := moves.Do(d, m)
		if e != api.OK {
			continue
		}
		if rest := fewestMoves(next, depth-1); rest >= 0 {
			best, depth = rest+1, rest
		}
	}
	return best
}

// P16.2: by its words: all rows are tried.
func TestSeekByWords(t *testing.T) {
	lengths, slides := map[int]int{}, 0
	for _, d := range append(smallOnes(4), slidOnes()...) {
		want := fewestMoves(d, mostDepth)
		shortest(t, d, want)
		lengths[want]++
		if l := byWay(d); slices.Contains(l, api.Slide) {
			slides++
		}
	}
	for want := -1; want <= mostDepth; want++ {
		if lengths[want] < 3 {
			t.Error("too few ways of", want, lengths)
		}
	}
	if slides < 20 {
		t.Error("too few slides", slides)
	}
}

// P16.2: of more crossings rows of a few moves are tried.
func TestSeekAFewByWords(t *testing.T) {
	const depth = 3
	lengths := map[int]int{}
	for _, d := range smallOnes(mostCross) {
		want := fewestMoves(d, depth)
		lengths[want]++
		if want < 0 {
			noWay(t, d, depth)
		} else if l := way(t, d, depth); len(l) != want {
			t.Error(d, l, "wanted:", want)
		}
	}
	for want := -1; want <= depth; want++ {
		if lengths[want] < 3 {
			t.Error("too few ways of", want, lengths)
		}
	}
}
