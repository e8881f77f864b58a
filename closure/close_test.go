package closure_test

import (
	"slices"
	"testing"

	"knotwork/api"
	"knotwork/braid"
	"knotwork/canon"
	"knotwork/code"
	"knotwork/gauss"
	"knotwork/moved"
	"knotwork/samples"
)

// The chapter's example, and the document's.
func TestTrefoils(t *testing.T) {
	d := closed(t, 2, []int{1, 1, 1})
	for k, c := range d.Crosses {
		if !c.Plus {
			t.Error(k, c)
		}
	}
	for _, x := range []struct {
		word []int
		want api.Diagram
	}{
		{[]int{1, 1, 1}, moved.Mirrored(samples.Trefoil())},
		{[]int{-1, -1, -1}, samples.Trefoil()},
	} {
		if same, e := canon.Same(closed(t, 2, x.word), x.want); !same || e != api.OK {
			t.Error(x.word, same, e)
		}
	}
}

// P14.1: drawn and numbered by hand.
func TestCloseByHand(t *testing.T) {
	for _, x := range []struct {
		n    int
		word []int
		want string
	}{
		{2, nil, "O O"},
		{2, []int{}, "O O"},
		{6, nil, "O O O O O O"},
		{2, []int{1}, "X+[2,2,1,1]"},
		{2, []int{-1}, "X-[1,2,2,1]"},
		{2, []int{1, 1}, "X+[3,2,4,1] X+[2,3,1,4]"},
		{2, []int{1, -1}, "X+[3,2,4,1] X-[4,2,3,1]"},
		{2, []int{1, 1, 1}, "X+[4,2,5,1] X+[2,6,3,5] X+[6,4,1,3]"},
		{2, []int{-1, -1, -1}, "X-[1,4,2,5] X-[5,2,6,3] X-[3,6,4,1]"},
		{3, []int{1}, "X+[2,2,1,1] O"},
		{3, []int{2}, "X+[2,2,1,1] O"}, // the first walk is a loop: it takes no number
		{3, []int{-2}, "X-[1,2,2,1] O"},
		{3, []int{1, -2}, "X+[4,2,1,1] X-[2,3,3,4]"},
		{3, []int{2, 1}, "X+[3,3,4,2] X+[4,2,1,1]"}, // who begins at the first place comes to the second crossing first
		{4, []int{1, 3}, "X+[2,2,1,1] X+[4,4,3,3]"},
		{4, []int{3, 1}, "X+[4,4,3,3] X+[2,2,1,1]"}, // numbers go by walks, crossings by letters
		{4, []int{2, 2}, "X+[3,2,4,1] X+[2,3,1,4] O O"},
		{6, []int{-5}, "X-[1,2,2,1] O O O O"},
	} {
		if s, e := code.Show(closed(t, x.n, x.word)); e != api.OK || s != x.want {
			t.Errorf("%d %v: %q, %v; wanted: %q", x.n, x.word, s, e, x.want)
		}
	}
}

// P14.1: of many braids, number by number, as the chapter's words say it; and but for numbers as it is drawn from below to above.
func TestClose(t *testing.T) {
	loops, parts := map[int]int{}, map[int]int{}
	for _, x := range toClose() {
		got, want := closed(t, x.Strands, x.Word), closedByWords(x.Strands, x.Word)
		if !samples.Alike(got, want) {
			t.Fatal(x, got, "wanted:", want)
		}
		if same, e := canon.Same(got, samples.Weave(x.Strands, x.Word)); !same || e != api.OK {
			t.Fatal(x, got, same, e)
		}
		loops[got.Loops]++
		parts[moved.Parts(got)]++
	}
	for count := 1; count <= api.MaxStrands; count++ {
		if parts[count] < 5 {
			t.Error("too few of so many parts:", count, parts)
		}
	}
	for count := range api.MaxStrands - 1 { // a letter leaves two strands fewer, at most
		if loops[count] < 5 {
			t.Error("too few of so many loops:", count, loops)
		}
	}
}

// P14.1: links lie on a sphere, have a crossing a letter, as many parts as Ends has rings, and numbers that rise along each part.
func TestCloseIsALink(t *testing.T) {
	for _, x := range toClose() {
		d := closed(t, x.Strands, x.Word)
		if planar, e := code.Planar(d); !planar || e != api.OK || len(d.Crosses) != len(x.Word) {
			t.Fatal(x, d, planar, e)
		}
		if got, want := moved.Parts(d), ringsOfEnds(t, x); got != want {
			t.Fatal(x, d, got, "parts, wanted:", want)
		}
		strands, e := gauss.Strands(d)
		if e != api.OK {
			t.Fatal(x, d, e)
		}
		for i, arc := range slices.Concat(strands...) {
			if arc != i+1 {
				t.Fatal(x, d, strands)
			}
		}
	}
}

// ringsOfEnds: how many rings come of it when each place leads to the one where its strand ends.
func ringsOfEnds(t *testing.T, x samples.Braid) int {
	t.Helper()
	ends, e := braid.Ends(x.Strands, x.Word)
	if e != api.OK {
		t.Fatal(x, e)
	}
	count := 0
	for first := range ends {
		// Each ring is counted at its least place.
		least := first
		for place := ends[first] - 1; place != first; place = ends[place] - 1 {
			least = min(least, place)
		}
		if least == first {
			count++
		}
	}
	return count
}

// P14.1: with all signs changed each crossing has the other strand above, and all numbers stay.
func TestCloseTurned(t *testing.T) {
	for _, x := range toClose() {
		var turned []int
		for _, letter := range x.Word {
			turned = append(turned, -letter)
		}
		if got, want := closed(t, x.Strands, turned), moved.Mirrored(closed(t, x.Strands, x.Word)); !samples.Alike(got, want) {
			t.Fatal(x, got, "wanted:", want)
		}
	}
}

// P14.1: letters that go from the beginning to the end change numbers alone.
func TestCloseAround(t *testing.T) {
	for _, x := range toClose() {
		if len(x.Word) < 2 {
			continue
		}
		k := 1 + len(x.Word)/3
		around := slices.Concat(x.Word[k:], x.Word[:k])
		if same, e := canon.Same(closed(t, x.Strands, around), closed(t, x.Strands, x.Word)); !same || e != api.OK {
			t.Fatal(x, around, same, e)
		}
	}
}

// P14.1: one strand more that no letter moves is one loop more.
func TestCloseBesideStrands(t *testing.T) {
	for _, x := range toClose() {
		if x.Strands == api.MaxStrands {
			continue
		}
		want := closed(t, x.Strands, x.Word)
		want.Loops++
		var right []int
		for _, letter := range x.Word {
			right = append(right, letter+letter/size(letter))
		}
		for _, word := range [][]int{x.Word, right} {
			if got := closed(t, x.Strands+1, word); !samples.Alike(got, want) {
				t.Fatal(x, word, got, "wanted:", want)
			}
		}
	}
}
