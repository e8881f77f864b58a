package table_test

import (
	"slices"
	"testing"

	"knotwork/api"
	"knotwork/bracket"
	"knotwork/canon"
	"knotwork/code"
	"knotwork/moved"
	"knotwork/moves"
	"knotwork/samples"
	"knotwork/tangle"
)

// The chapter's example: both trefoils, and the figure of eight twice: each the mirror image of the other one, and its reverse.
func TestExamples(t *testing.T) {
	trefoils := []string{formOf(samples.Trefoil()), formOf(moved.Mirrored(samples.Trefoil()))}
	slices.Sort(trefoils)
	if got := texts(t, 3); !slices.Equal(got, trefoils) {
		t.Error(got, "wanted:", trefoils)
	}
	eight := samples.Weave(3, []int{1, -2, 1, -2})
	got := texts(t, 4)
	if len(got) != 2 || got[0] == got[1] || !slices.Contains(got, formOf(eight)) {
		t.Fatal(got)
	}
	for k, s := range got {
		d, other := samples.OfText(s), got[1-k]
		if formOf(moved.Mirrored(d)) != other || formOf(moved.Backward(d)) != other {
			t.Error(s, other)
		}
	}
}

// P16.1: all texts, as they are told.
func TestTexts(t *testing.T) {
	for n, want := range map[int][]string{
		3: {
			"X+[1,2,3,4] X+[5,1,4,6] X+[2,5,6,3]",
			"X-[1,2,3,4] X-[5,6,2,1] X-[4,3,6,5]",
		},
		4: {
			"X-[1,2,3,4] X+[5,1,6,7] X-[8,3,2,5] X+[4,8,7,6]",
			"X-[1,2,3,4] X-[4,5,6,1] X+[7,8,2,6] X+[8,7,5,3]",
		},
		5: {
			"X+[1,2,3,4] X+[2,1,5,6] X+[7,8,4,3] X+[8,9,10,5] X+[9,7,6,10]",
			"X+[1,2,3,4] X+[5,1,4,6] X+[2,7,8,3] X+[9,5,6,10] X+[7,9,10,8]",
			"X-[1,2,3,4] X-[5,6,2,1] X-[4,3,7,8] X-[9,10,6,5] X-[8,7,10,9]",
			"X-[1,2,3,4] X-[5,6,2,1] X-[7,3,6,8] X-[4,9,10,5] X-[8,10,9,7]",
		},
	} {
		if got := texts(t, n); !slices.Equal(got, want) {
			t.Error(n, got, "wanted:", want)
		}
	}
}

// P16.1: what is told is as the promise asks, each once, in the order of bytes.
func TestEach(t *testing.T) {
	for n := fewest; n <= most; n++ {
		got := texts(t, n)
		for i, s := range got {
			d, e := code.Read(s)
			if e != api.OK || len(d.Crosses) != n || d.Loops != 0 || !moved.Knot(d) || !alternating(d) || formOf(d) != s {
				t.Error(n, s, e)
			}
			if simple, taken, e := moves.Simple(d); e != api.OK || len(taken) != 0 || !samples.Alike(simple, d) {
				t.Error(n, s, "can be simpler", taken, e)
			}
			if i > 0 && got[i-1] >= s {
				t.Error(n, got[i-1], "is ahead of", s)
			}
		}
	}
}

// P16.1: where a diagram is told, so is what comes of it, when it is mirrored or reversed.
func TestTurned(t *testing.T) {
	for n := fewest; n <= most; n++ {
		got := texts(t, n)
		for _, s := range got {
			d := samples.OfText(s)
			reversed, e := canon.Reverse(d, 0)
			if e != api.OK || !slices.Contains(got, formOf(reversed)) || !slices.Contains(got, formOf(moved.Mirrored(d))) {
				t.Error(n, s)
			}
		}
	}
}

// P16.1: braids and links of two bridges whose strands go above and below by turns: each is told just if it is a knot of which nothing can be taken out.
func TestAllAreThere(t *testing.T) {
	var ones []api.Diagram
	for _, word := range samples.ShortWords(3, most) {
		ones = append(ones, samples.Weave(3, word))
	}
	for _, word := range samples.ShortWords(2, most) {
		ones = append(ones, samples.Weave(2, word))
	}
	for _, l := range [][]int{{3}, {-3}, {5}, {-5}, {2, 1, 1}, {-2, -1, -1}, {1, 1, 2}, {-1, -1, -2}, {3, 1, 1}, {-3, -1, -1}, {2, 1, 2}, {-2, -1, -2}, {1, 1, 3}, {-1, -1, -3}, {2, 2, 1}, {1, 2, 2}, {4}, {2}, {1, 1, 1}} {
		d, e := tangle.Link(l)
		if e != api.OK {
			t.Fatal(l, e)
		}
		ones = append(ones, d)
	}
	told := map[string]int{}
	for n := fewest; n <= most; n++ {
		for _, s := range texts(t, n) {
			told[s] = n
		}
	}
	seen := map[string]int{}
	for _, d := range ones {
		_, taken, _ := moves.Simple(d)
		_, is := told[formOf(d)]
		want := len(d.Crosses) >= fewest && d.Loops == 0 && moved.Knot(d) && alternating(d) && len(taken) == 0
		if is != want {
			t.Error(d, is)
		}
		if is {
			seen[formOf(d)]++
		}
	}
	if len(seen) != len(told) {
		t.Error("too few were met:", seen)
	}
}

// What comes of it: Jones's polynomial is as wide as can be; none of them is the unknot.
func TestJones(t *testing.T) {
	for n := fewest; n <= most; n++ {
		for _, s := range texts(t, n) {
			a, e := bracket.Jones(samples.OfText(s))
			if e != api.OK || len(a) == 0 || a[len(a)-1].Exp-a[0].Exp != 4*n {
				t.Error(n, s, a, e)
			}
			shortest(t, samples.OfText(s), -1)
		}
	}
}
