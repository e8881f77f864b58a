package wind_test

import (
	"slices"
	"testing"

	"knotwork/api"
	"knotwork/canon"
	"knotwork/gauss"
	"knotwork/moved"
	"knotwork/samples"
)

// P6.1: what was counted by hand.
func TestLinkingByHand(t *testing.T) {
	for _, x := range []struct {
		what    string
		d       api.Diagram
		writhe  int
		linking [][]int
	}{
		{"the trefoil", samples.Trefoil(), -3, [][]int{{-3}}},
		{"its mirror image", samples.OfText("X+[4,2,5,1] X+[6,4,1,3] X+[2,6,3,5]"), 3, [][]int{{3}}},
		{"the figure of eight", samples.Weave(3, []int{1, -2, 1, -2}), 0, [][]int{{0}}},
		{"a curl that is Plus", samples.OfText("X+[1,1,2,2]"), 1, [][]int{{1}}},
		{"a curl that is not", samples.OfText("X-[2,1,1,2]"), -1, [][]int{{-1}}},
		{"two rings, linked", samples.OfText("X+[4,2,1,3] X+[2,4,3,1]"), 2, [][]int{{0, 1}, {1, 0}}},
		{"the same, one of them the other way round", samples.OfText("X-[1,3,4,2] X-[2,4,3,1]"), -2, [][]int{{0, -1}, {-1, 0}}},
		{"two rings, one upon the other", samples.OfText("X+[2,3,1,4] X-[1,3,2,4]"), 0, [][]int{{0, 0}, {0, 0}}},
		{"two rings, linked three times", samples.Chain(6, false), -6, [][]int{{0, -3}, {-3, 0}}},
		{"Whitehead's link", samples.Weave(3, []int{1, -2, 1, -2, -2}), -1, [][]int{{0, 0}, {0, -1}}},
		{"Borromeo's rings", samples.Weave(3, []int{1, -2, 1, -2, 1, -2}), 0, [][]int{{0, 0, 0}, {0, 0, 0}, {0, 0, 0}}},
		{"three rings, each linked to each", samples.Weave(3, []int{1, 2, 1, 2, 1, 2}), 6, [][]int{{0, 1, 1}, {1, 0, 1}, {1, 1, 0}}},
		{"three rings in a row", samples.Weave(3, []int{1, 1, -2, -2, -2, -2}), -2, [][]int{{0, 1, -2}, {1, 0, 0}, {-2, 0, 0}}},
		{"two pieces and a loop", samples.OfText("X+[4,4,1,1] X-[2,3,3,2] O"), 0, [][]int{{1, 0}, {0, -1}}},
		{"three pieces, arcs mixed", samples.OfText("X+[2,2,7,7] X+[8,3,1,6] X-[5,4,4,5] X+[3,8,6,1]"), 2, [][]int{{0, 0, 1, 0}, {0, 1, 0, 0}, {1, 0, 0, 0}, {0, 0, 0, -1}}},
		{"linked rings and a loop", samples.OfText("O X+[4,2,1,3] X+[2,4,3,1]"), 2, [][]int{{0, 1}, {1, 0}}},
		{"one loop", samples.With(1), 0, nil},
		{"as many loops as may be", samples.With(api.MaxLoops), 0, nil},
		{"a knot of as many crossings as may be", moved.Curls(api.MaxCross, 1), 16, [][]int{{16}}},
		{"the other way round", moved.Curls(api.MaxCross, 2), -16, [][]int{{-16}}},
		{"a link of as many crossings as may be", samples.Chain(api.MaxCross, true), 16, [][]int{{0, 8}, {8, 0}}},
		{"as many crossings and loops as may be", samples.Beside(samples.Chain(api.MaxCross, false), samples.With(api.MaxLoops)), -16, [][]int{{0, -8}, {-8, 0}}},
	} {
		if got := writhe(t, x.d); got != x.writhe {
			t.Error("Writhe:", x.what, got, "wanted:", x.writhe)
		}
		if got := linking(t, x.d); !equal(got, x.linking) {
			t.Error("Linking:", x.what, got, "wanted:", x.linking)
		}
	}
}

// P6.1: as the visits of gauss tell it: who meets whom at each crossing, above and below, and with which sign.
func TestLinkingByVisits(t *testing.T) {
	count := map[int]int{}
	for _, d := range moved.Ones() {
		visits, plus, _ := gauss.Gauss(d)
		total, twice := 0, make([][]int, len(visits))
		for i := range visits {
			twice[i] = make([]int, len(visits))
		}
		for k := range plus {
			sign := 2*slices.Index([]bool{false, true}, plus[k]) - 1
			total += sign
			i, j := whoVisits(visits, api.Visit{Cross: k}), whoVisits(visits, api.Visit{Cross: k, Over: true})
			twice[i][j] += sign
			twice[j][i] += sign
		}
		if got := writhe(t, d); got != total {
			t.Fatal(d, "Writhe:", got, "wanted:", total)
		}
		got := linking(t, d)
		for i, row := range twice {
			for j := range row {
				if 2*got[i][j] != row[j] {
					t.Fatal(d, "Linking:", got, "wanted, twice:", twice)
				}
			}
		}
		count[len(got)]++
	}
	for parts := range 5 {
		if count[parts] < 3 {
			t.Error("too few diagrams of", parts, "parts:", count)
		}
	}
}

// whoVisits: the part that makes a visit.
func whoVisits(visits [][]api.Visit, v api.Visit) int {
	return slices.IndexFunc(visits, func(part []api.Visit) bool { return slices.Contains(part, v) })
}

// P6.1: how parts are linked is the same along every move; a curl changes the writhe by 1, an uncurl too, and nothing else does.
func TestAlongMoves(t *testing.T) {
	count := map[int]int{}
	for i, d := range moved.Ones() {
		linked, was := tied(linking(t, d)), writhe(t, d)
		for _, m := range moved.Steps(d, i) {
			change := writhe(t, m.To) - was
			switch {
			case m.Kind == api.Curl && change != 2*(m.By%2)-1:
				t.Fatal(d, m, "changes the writhe by", change)
			case m.Kind == api.Uncurl && change*change != 1:
				t.Fatal(d, m, "changes the writhe by", change)
			case m.Kind != api.Curl && m.Kind != api.Uncurl && change != 0:
				t.Fatal(d, m, "changes the writhe by", change)
			}
			if now := tied(linking(t, m.To)); !equal(now, linked) {
				t.Fatal(d, m, now, "wanted:", linked)
			}
			count[m.Kind]++
		}
	}
	for kind := api.Curl; kind <= api.Slide; kind++ {
		if count[kind] < 50 {
			t.Error("too few moves of kind", kind, count)
		}
	}
}

// tied: a table of links, without what parts have with themselves, and without those that are linked to none: these may become loops, and loops may become such.
func tied(table [][]int) [][]int {
	var some []int
	for i, row := range table {
		row[i] = 0
		if slices.ContainsFunc(row, func(n int) bool { return n != 0 }) {
			some = append(some, i)
		}
	}
	var less [][]int
	for _, i := range some {
		var row []int
		for _, j := range some {
			row = append(row, table[i][j])
		}
		less = append(less, row)
	}
	return less
}

// P6.1: mirrored, all signs are turned; when one part is reversed, those of its crossings with others are.
func TestLinkingTurned(t *testing.T) {
	for _, d := range moved.Ones() {
		table := linking(t, d)
		image, _ := canon.Mirror(d)
		if writhe(t, image) != -writhe(t, d) || !equal(linking(t, image), turned(table, func(i, j int) bool { return true })) {
			t.Fatal(d, image, writhe(t, image), linking(t, image))
		}
		for part := range table {
			other, _ := canon.Reverse(d, part)
			want := turned(table, func(i, j int) bool { return (i == part) != (j == part) })
			if got := linking(t, other); !equal(got, want) {
				t.Fatal(d, part, other, got, "wanted:", want)
			}
		}
	}
}

// turned: a table, some of whose numbers have the other sign.
func turned(table [][]int, which func(i, j int) bool) [][]int {
	var l [][]int
	for i, row := range table {
		l = append(l, slices.Clone(row))
		for j := range row {
			if which(i, j) {
				l[i][j] = -row[j]
			}
		}
	}
	return l
}
