package drawing_test

import (
	"slices"
	"testing"

	"knotwork/api"
	"knotwork/drawing"
	"knotwork/samples"
)

// Darts come in order, each once; who has seen enough may stop, whichever way the last one went.
func TestDarts(t *testing.T) {
	w, ok := drawing.Of(samples.Trefoil())
	if !ok {
		t.Fatal("the trefoil may be")
	}
	for most := 1; most <= 12; most++ {
		count := 0
		for d := range w.Darts() {
			if want := (api.Dart{Arc: count/2 + 1, Back: count%2 == 1}); d != want {
				t.Fatal(d, "wanted:", want)
			}
			if count++; count == most {
				break
			}
		}
		if count != most {
			t.Error(count, "darts; wanted:", most)
		}
	}
}

// Pieces are numbered by their first crossings.
func TestPieces(t *testing.T) {
	d := samples.Beside(samples.Trefoil(), samples.Chain(2, true))
	d.Crosses[1], d.Crosses[3] = d.Crosses[3], d.Crosses[1]
	w, _ := drawing.Of(d)
	piece, count := w.Pieces()
	for k, want := range []int{0, 1, 0, 0, 1} {
		if piece[k] != want {
			t.Error("crossing", k, "lies in", piece[k], "wanted:", want)
		}
	}
	if count != 2 || len(piece) != 5 {
		t.Error(piece, count)
	}
}

// A strand goes on across each crossing, and arcs tell whether it goes above at the next one.
func TestWalks(t *testing.T) {
	w, _ := drawing.Of(samples.Chain(2, true)) // X+[4,2,1,3] X+[2,4,3,1]
	for arc, want := range []struct {
		ahead int
		above bool
	}{1: {4, true}, 2: {3, false}, 3: {2, true}, 4: {1, false}} {
		if arc > 0 && (w.Ahead(arc) != want.ahead || w.Above(arc) != want.above) {
			t.Error("arc", arc, w.Ahead(arc), w.Above(arc), "wanted:", want)
		}
	}
	walks := w.Walks()
	if len(walks) != 2 || !slices.Equal(walks[0], []int{1, 4}) || !slices.Equal(walks[1], []int{2, 3}) {
		t.Error(walks)
	}
}

// The other strand goes on behind a crossing where it goes out: of the one below on the side to which the one above leads, and the other way round.
func TestAside(t *testing.T) {
	w, _ := drawing.Of(samples.OfText("X+[2,3,1,4] X-[1,3,2,4]"))
	for arc, want := range []int{1: 4, 2: 3, 3: 2, 4: 1} {
		if arc > 0 && w.Aside(arc) != want {
			t.Error("arc", arc, w.Aside(arc), "wanted:", want)
		}
	}
}

// Rings come from their lowest arcs on, in the order of these, whatever leads from arc to arc.
func TestArcRings(t *testing.T) {
	w, _ := drawing.Of(samples.Trefoil())
	next := []int{1: 5, 2: 2, 3: 6, 4: 3, 5: 1, 6: 4}
	got := w.ArcRings(func(arc int) int { return next[arc] })
	if want := [][]int{{1, 5}, {2}, {3, 6, 4}}; !slices.EqualFunc(got, want, slices.Equal[[]int]) {
		t.Error(got, "wanted:", want)
	}
}

// Flat tells what is wrong with a diagram, and draws what lies on a sphere.
func TestFlat(t *testing.T) {
	for _, x := range samples.WrongOnes() {
		if w, e := drawing.Flat(x.Diagram); e != api.ErrState || w.To != nil {
			t.Error(x.What, w, e)
		}
	}
	for _, d := range samples.TwistedOnes() {
		if w, e := drawing.Flat(d); e != api.ErrPlane || w.To != nil {
			t.Error(d, w, e)
		}
	}
	for _, d := range samples.FlatOnes() {
		if w, e := drawing.Flat(d); e != api.OK || !samples.Alike(w.Diagram, d) || len(w.To) != 2*len(d.Crosses)+1 {
			t.Error(d, w, e)
		}
	}
}

// Single draws what is of one piece and has no loops, and tells what is wrong with others: ahead of that what Flat tells.
func TestSingle(t *testing.T) {
	one, loop, twisted := samples.Trefoil(), samples.With(1), samples.OfText("X-[1,2,1,2]")
	for _, x := range []struct {
		what string
		d    api.Diagram
		want api.Errno
	}{
		{"one piece", one, api.OK},
		{"one piece of two parts", samples.Chain(2, true), api.OK},
		{"two pieces", samples.Beside(one, one), api.ErrKind},
		{"a piece and a loop", samples.Beside(one, loop), api.ErrKind},
		{"no piece", loop, api.ErrKind},
		{"on no sphere", twisted, api.ErrPlane},
		{"two pieces, one of them on no sphere, and a loop", samples.Beside(samples.Beside(one, twisted), loop), api.ErrPlane},
		{"what may not be", samples.Beside(samples.With(0, api.Cross{}), one), api.ErrState},
	} {
		w, e := drawing.Single(x.d)
		if e != x.want || e == api.OK && !samples.Alike(w.Diagram, x.d) || e != api.OK && w.To != nil {
			t.Error(x.what, w, e, "wanted:", x.want)
		}
	}
}

// Turned from each of its sides on, a crossing has the same arcs around it; from A on it is what it was.
func TestTurned(t *testing.T) {
	c := api.Cross{A: 7, B: 5, C: 8, D: 6, Plus: true}
	for first, want := range []api.Cross{
		drawing.SideA: c,
		drawing.SideB: {A: 5, B: 8, C: 6, D: 7, Plus: true},
		drawing.SideC: {A: 8, B: 6, C: 7, D: 5, Plus: true},
		drawing.SideD: {A: 6, B: 7, C: 5, D: 8, Plus: true},
	} {
		if got := drawing.Turned(c, first); got != want {
			t.Error("from side", first, got, "wanted:", want)
		}
	}
}

// Numbers are asked for from A to D, each with its side.
func TestRenumbered(t *testing.T) {
	var asked [][2]int
	got := drawing.Renumbered(api.Cross{A: 7, B: 5, C: 7, D: 6}, func(side, arc int) int {
		asked = append(asked, [2]int{side, arc})
		return 10*len(asked) + arc
	})
	if want := (api.Cross{A: 17, B: 25, C: 37, D: 46}); got != want {
		t.Error(got, "wanted:", want)
	}
	if !slices.Equal(asked, [][2]int{{drawing.SideA, 7}, {drawing.SideB, 5}, {drawing.SideC, 7}, {drawing.SideD, 6}}) {
		t.Error("asked:", asked)
	}
}

// Without some crossings strands go on as they are told to; the least numbers are left, and rings are loops, be they more than may be.
func TestWithout(t *testing.T) {
	trefoil, curls := samples.Trefoil(), samples.OfText("X-[1,2,2,1] X+[3,3,4,4]")
	curls.Loops = api.MaxLoops
	for _, x := range []struct {
		what  string
		d     api.Diagram
		aside bool
		gone  []int
		want  api.Diagram
	}{
		{"nothing gone", trefoil, false, nil, trefoil},
		{"across", trefoil, false, []int{0}, samples.OfText("X-[2,4,3,1] X-[3,1,4,2]")},
		{"aside", trefoil, true, []int{0}, samples.OfText("X-[3,4,2,1] X-[1,2,4,3]")},
		{"all but one, aside", trefoil, true, []int{2, 0}, samples.OfText("X-[1,2,2,1]")},
		{"all, across", trefoil, false, []int{0, 1, 2}, samples.With(1)},
		{"all, aside", trefoil, true, []int{0, 1, 2}, samples.With(2)},
		{"many loops, across", curls, false, []int{0}, samples.With(17, api.Cross{A: 1, B: 1, C: 2, D: 2, Plus: true})},
		{"many loops, aside", curls, true, []int{0, 1}, samples.With(20)},
	} {
		w, ok := drawing.Of(x.d)
		next := w.Ahead
		if x.aside {
			next = w.Aside
		}
		if got := w.Without(next, x.gone...); !ok || !samples.Alike(got, x.want) {
			t.Error(x.what, got, ok, "wanted:", x.want)
		}
	}
}

// Arcs are numbered from 1 on; loops have none.
func TestHas(t *testing.T) {
	trefoil, _ := drawing.Of(samples.Trefoil())
	loops, _ := drawing.Of(samples.With(3))
	for arc := -3; arc < 10; arc++ {
		if trefoil.Has(arc) != (arc >= 1 && arc <= 6) || loops.Has(arc) {
			t.Error("arc", arc, trefoil.Has(arc), loops.Has(arc))
		}
	}
}

// A strand goes on across a crossing: from A to C, from B to D, and back; the one above has its ends at B and D.
func TestSpots(t *testing.T) {
	for side, want := range []struct {
		across int
		above  bool
	}{
		drawing.SideA: {drawing.SideC, false}, drawing.SideB: {drawing.SideD, true},
		drawing.SideC: {drawing.SideA, false}, drawing.SideD: {drawing.SideB, true},
	} {
		s := drawing.Spot{Cross: 7, Side: side}
		if s.Across() != (drawing.Spot{Cross: 7, Side: want.across}) || s.Above() != want.above {
			t.Error(s, s.Across(), s.Above(), "wanted:", want)
		}
	}
}
