package colour_test

import (
	"slices"
	"testing"

	"knotwork/api"
	"knotwork/gauss"
	"knotwork/moved"
	"knotwork/samples"
)

// P7.1: overpasses that were found by hand.
func TestOversByHand(t *testing.T) {
	for _, x := range []struct {
		what, text string
		want       []int
	}{
		{"the trefoil", "X-[1,4,2,5] X-[3,6,4,1] X-[5,2,6,3]", []int{0, 1, 1, 2, 2, 0}},
		{"its mirror image", "X+[4,2,5,1] X+[6,4,1,3] X+[2,6,3,5]", []int{0, 0, 1, 1, 2, 2}},
		{"a curl that is Plus: it is above once, and below once", "X+[1,1,2,2]", []int{0, 0}},
		{"a curl that is not", "X-[2,1,1,2]", []int{0, 0}},
		{"two rings, linked", "X+[4,2,1,3] X+[2,4,3,1]", []int{0, 1, 1, 0}},
		{"two rings, one upon the other: it is above all around", "X+[2,3,1,4] X-[1,3,2,4]", []int{0, 1, 2, 2}},
		{"the same, the upper one's arcs come first", "X+[4,1,3,2] X-[3,1,4,2]", []int{0, 0, 1, 2}},
		{"the same, arcs mixed", "X+[4,1,2,3] X-[2,1,4,3]", []int{0, 1, 0, 2}},
		{"two pieces and a loop", "X+[4,4,1,1] X-[2,3,3,2] O", []int{0, 1, 1, 0}},
		{"three crossings in a row above", "X-[1,6,2,7] X-[7,2,8,3] X-[3,8,4,1] X-[4,5,5,6]", []int{0, 1, 1, 2, 3, 3, 3, 0}},
		{"one loop", "O", nil},
		{"loops", "O O O", nil},
	} {
		if got := overs(t, samples.OfText(x.text)); !slices.Equal(got, x.want) {
			t.Error(x.what, got, "wanted:", x.want)
		}
	}
}

// P7.1: along each walk an overpass goes on above a crossing, and ends below one; the numbers count overpasses by their lowest arcs.
func TestOvers(t *testing.T) {
	rings := 0
	for _, d := range moved.Ones() {
		got, groups := overs(t, d), walked(d)
		next := 0
		for arc := 1; arc <= len(got); arc++ {
			number := got[arc-1]
			if number > next || number < 0 {
				t.Fatal(d, got, "arc", arc, "is the first one of", number)
			}
			if number == next {
				next++
			}
			for other := 1; other < arc; other++ {
				if (number == got[other-1]) != (groups[arc] == groups[other]) {
					t.Fatal(d, got, "arcs", other, "and", arc)
				}
			}
		}
		if next > len(d.Crosses) {
			rings++
		}
	}
	if rings < 20 {
		t.Error("too few diagrams with rings above all others:", rings)
	}
}

// walked: groups of arcs, found on the walks along parts.
func walked(d api.Diagram) map[int]int {
	group, last := map[int]int{}, 0
	strands, _ := gauss.Strands(d)
	visits, _, _ := gauss.Gauss(d)
	for i, arcs := range strands {
		last++
		// Behind a crossing below an overpass begins; a part that has none is one.
		first := 1 + slices.IndexFunc(visits[i], func(v api.Visit) bool { return !v.Over })
		for k := range arcs {
			at := (first + k) % len(arcs)
			group[arcs[at]] = last
			if !visits[i][at].Over {
				last++
			}
		}
	}
	return group
}

// P7.1: as many overpasses as crossings, and one more for each ring that is above all around.
func TestOversOfRingsUpon(t *testing.T) {
	for rings := 1; 2*rings <= api.MaxCross; rings++ {
		d := moved.RingsUpon(rings)
		if got := slices.Max(overs(t, d)) + 1; got != 3*rings {
			t.Error(rings, "rings:", got, "overpasses; wanted:", 3*rings)
		}
	}
	for n := 1; n <= api.MaxCross; n++ {
		if got := slices.Max(overs(t, samples.Chain(n, true))) + 1; got != n {
			t.Error(n, "crossings:", got, "overpasses")
		}
	}
}
