package wind_test

import (
	"slices"
	"testing"

	"knotwork/api"
	"knotwork/canon"
	"knotwork/moved"
	"knotwork/samples"
	"knotwork/wind"
)

// P6.2, P6.3: rings that were walked by hand, and the genus that comes of them.
func TestCirclesByHand(t *testing.T) {
	for _, x := range []struct {
		what, text string
		rings      [][]int
		genus      int
		refused    api.Errno
	}{
		{"the trefoil", "X-[1,4,2,5] X-[3,6,4,1] X-[5,2,6,3]", [][]int{{1, 5, 3}, {2, 6, 4}}, 1, api.OK},
		{"its mirror image", "X+[4,2,5,1] X+[6,4,1,3] X+[2,6,3,5]", [][]int{{1, 5, 3}, {2, 6, 4}}, 1, api.OK},
		{"a curl that is Plus", "X+[1,1,2,2]", [][]int{{1}, {2}}, 0, api.OK},
		{"a curl that is not", "X-[2,1,1,2]", [][]int{{1}, {2}}, 0, api.OK},
		{"two rings, linked", "X+[4,2,1,3] X+[2,4,3,1]", [][]int{{1, 3}, {2, 4}}, 0, api.OK},
		{"the same, one of them the other way round", "X-[1,3,4,2] X-[2,4,3,1]", [][]int{{1, 2}, {3, 4}}, 0, api.OK},
		{"two rings, one upon the other", "X+[2,3,1,4] X-[1,3,2,4]", [][]int{{1, 4}, {2, 3}}, 0, api.OK},
		{"linked rings and a loop", "X+[4,2,1,3] O X+[2,4,3,1]", [][]int{{1, 3}, {2, 4}}, 0, api.ErrKind},
		{"two pieces", "X+[4,4,1,1] X-[2,3,3,2]", [][]int{{1}, {2}, {3}, {4}}, 0, api.ErrKind},
		{"three pieces, arcs mixed, and a loop", "X+[2,2,7,7] X+[8,3,1,6] X-[5,4,4,5] X+[3,8,6,1] O", [][]int{{1, 6}, {2}, {3, 8}, {4}, {5}, {7}}, 0, api.ErrKind},
		{"one loop", "O", nil, 0, api.ErrKind},
		{"loops alone", "O O O", nil, 0, api.ErrKind},
	} {
		d := samples.OfText(x.text)
		if got := circles(t, d); !equal(got, x.rings) {
			t.Error("Circles:", x.what, got, "wanted:", x.rings)
		}
		if got, e := wind.Genus(d); got != x.genus || e != x.refused {
			t.Error("Genus:", x.what, got, e, "wanted:", x.genus, x.refused)
		}
	}
}

// undone: of each arc the one that comes behind it when crossings are undone, by the chapter's words.
func undone(d api.Diagram) map[int]int {
	next := map[int]int{}
	for _, c := range d.Crosses {
		if c.Plus {
			next[c.A], next[c.D] = c.B, c.C
		} else {
			next[c.A], next[c.B] = c.D, c.C
		}
	}
	return next
}

// P6.2: each arc stands once, behind the one that leads to it; each ring begins with its lowest arc, and they are in the order of these.
func TestCircles(t *testing.T) {
	count := map[int]int{}
	for _, d := range moved.Ones() {
		next, got, seen := undone(d), circles(t, d), map[int]bool{}
		for i, ring := range got {
			for j, arc := range ring {
				if seen[arc] || next[arc] != ring[(j+1)%len(ring)] {
					t.Fatal(d, got, "goes on otherwise behind", arc)
				}
				seen[arc] = true
			}
			if slices.Min(ring) != ring[0] || i > 0 && got[i-1][0] > ring[0] {
				t.Fatal(d, got, "is not in order")
			}
		}
		if len(seen) != 2*len(d.Crosses) {
			t.Fatal(d, got, "lacks arcs")
		}
		count[len(got)]++
	}
	for rings := range 8 {
		if rings != 1 && count[rings] < 3 {
			t.Error("too few diagrams of", rings, "rings:", count)
		}
	}
}

// P6.3: half of 2, less the parts, less the rings, and the crossings; of one piece alone, and without loops.
func TestGenus(t *testing.T) {
	count, of := map[api.Errno]int{}, map[int]int{}
	for _, d := range moved.Ones() {
		got, e := wind.Genus(d)
		count[e]++
		if pieces(d) != 1 || d.Loops > 0 {
			if got != 0 || e != api.ErrKind {
				t.Fatal(d, got, e)
			}
			continue
		}
		if e != api.OK || got < 0 || 2*got != 2-len(strands(d))-len(circles(t, d))+len(d.Crosses) {
			t.Fatal(d, got, e)
		}
		of[got]++
	}
	if count[api.OK] < 100 || count[api.ErrKind] < 100 || of[0] < 10 || of[1] < 10 || of[2] < 10 {
		t.Error("too few of one kind:", count, of)
	}
}

// P6.2, P6.3: a braid's closure has a ring for each of its strands, around one axis all of them.
func TestGenusOfBraids(t *testing.T) {
	for _, x := range []struct {
		what    string
		strands int
		word    []int
		genus   int
	}{
		{"the figure of eight", 3, []int{1, -2, 1, -2}, 1},
		{"Whitehead's link", 3, []int{1, -2, 1, -2, -2}, 1},
		{"Borromeo's rings", 3, []int{1, -2, 1, -2, 1, -2}, 1},
		{"three rings, each linked to each", 3, []int{1, 2, 1, 2, 1, 2}, 1},
		{"three rings in a row", 3, []int{1, 1, 2, 2}, 0},
		{"the torus knot of three strands and four turns", 3, []int{1, 2, 1, 2, 1, 2, 1, 2}, 3},
		{"of three strands and eight turns: as many crossings as may be", 3, []int{1, 2, 1, 2, 1, 2, 1, 2, 1, 2, 1, 2, 1, 2, 1, 2}, 7},
		{"of four strands and five turns", 4, []int{1, 2, 3, 1, 2, 3, 1, 2, 3, 1, 2, 3, 1, 2, 3}, 6},
		{"a way to tell a loop", 5, []int{1, -2, 3, -4}, 0},
		{"one part less than rings", 2, slices.Repeat([]int{-1}, api.MaxCross-1), 7},
		{"as many parts as rings", 2, slices.Repeat([]int{1}, api.MaxCross), 7},
	} {
		d := samples.Weave(x.strands, x.word)
		if got := circles(t, d); len(got) != x.strands {
			t.Error("Circles:", x.what, got)
		}
		if got, e := wind.Genus(d); got != x.genus || e != api.OK {
			t.Error("Genus:", x.what, got, e, "wanted:", x.genus)
		}
	}
}

// P6.3: curls have a ring each, so they change no genus, however many there are.
func TestGenusOfCurls(t *testing.T) {
	for n := 1; n <= api.MaxCross; n++ {
		for by := range 4 {
			d := moved.Curls(n, by)
			if got, e := wind.Genus(d); got != 0 || e != api.OK || len(circles(t, d)) != n+1 {
				t.Error(n, by, got, e, circles(t, d))
			}
		}
	}
}

// P6.3: the genus of a sum of two that have one is theirs together; that of a mirror image is the same.
func TestGenusOfSums(t *testing.T) {
	var ones []api.Diagram
	for _, d := range moved.Ones() {
		if _, e := wind.Genus(d); e == api.OK {
			ones = append(ones, d)
		}
	}
	count := 0
	for i, a := range ones {
		of, _ := wind.Genus(a)
		image, _ := canon.Mirror(a)
		if got, e := wind.Genus(image); got != of || e != api.OK {
			t.Fatal(image, got, e, "wanted:", of)
		}
		b := ones[(7*i+3)%len(ones)]
		sum, e := canon.Sum(a, 1+i%(2*len(a.Crosses)), b, 1+i%(2*len(b.Crosses)))
		if e != api.OK {
			continue
		}
		count++
		more, _ := wind.Genus(b)
		if got, e := wind.Genus(sum); got != of+more || e != api.OK {
			t.Fatal(a, b, sum, got, e, "wanted:", of, "and", more)
		}
	}
	if count < 50 {
		t.Error("too few sums:", count)
	}
}

// P6.3: more pieces, none, or loops: there is no genus.
func TestGenusOfOtherKinds(t *testing.T) {
	for _, x := range []samples.Named{
		{What: "one loop", Diagram: samples.With(1)},
		{What: "as many loops as may be", Diagram: samples.With(api.MaxLoops)},
		{What: "one piece and a loop", Diagram: samples.Beside(samples.Trefoil(), samples.With(1))},
		{What: "one piece and as many loops as may be", Diagram: samples.Beside(samples.Chain(api.MaxCross, true), samples.With(api.MaxLoops))},
		{What: "two pieces", Diagram: samples.Beside(samples.Trefoil(), samples.Trefoil())},
		{What: "two pieces and a loop", Diagram: samples.Beside(samples.Chain(2, true), samples.OfText("X-[1,2,2,1] O"))},
		{What: "a braid whose letters leave one strand alone", Diagram: samples.Weave(3, []int{1, 1, 1})},
		{What: "a braid of two pieces", Diagram: samples.Weave(4, []int{1, 3, 1, 3})},
	} {
		if got, e := wind.Genus(x.Diagram); got != 0 || e != api.ErrKind {
			t.Error(x.What, got, e)
		}
	}
}
