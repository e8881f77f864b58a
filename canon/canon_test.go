package canon_test

import (
	"slices"
	"testing"

	"knotwork/api"
	"knotwork/canon"
	"knotwork/code"
	"knotwork/samples"
)

// P4.2: forms that were found by hand.
func TestCanonByHand(t *testing.T) {
	for _, x := range []struct{ what, text, want string }{
		{"one loop", "O", "O"},
		{"loops alone", "O O O", "O O O"},
		{"a curl", "X-[2,1,1,2]", "X-[1,2,2,1]"},
		{"the other curl, with loops", "O X+[2,2,1,1] O", "X+[1,1,2,2] O O"},
		{"two rings that cross once", "X-[2,1,2,1]", "X-[1,2,1,2]"},
		{"the same, with Plus", "X+[2,1,2,1]", "X+[1,2,1,2]"},
		{"the trefoil", "X-[1,4,2,5] X-[3,6,4,1] X-[5,2,6,3]", "X-[1,2,3,4] X-[5,6,2,1] X-[4,3,6,5]"},
		{"the trefoil told otherwise", "X-[6,3,1,4] X-[2,5,3,6] X-[4,1,5,2]", "X-[1,2,3,4] X-[5,6,2,1] X-[4,3,6,5]"},
		{"a crossing that is not Plus comes first", "X+[2,3,1,4] X-[1,3,2,4]", "X-[1,2,3,4] X+[3,2,1,4]"},
		{"the same in the other order", "X-[1,3,2,4] X+[2,3,1,4]", "X-[1,2,3,4] X+[3,2,1,4]"},
		{"fewer crossings come first", "X-[1,4,2,5] X-[3,6,4,1] X-[5,2,6,3] X+[7,7,8,8]", "X+[1,1,2,2] X-[3,4,5,6] X-[7,8,4,3] X-[6,5,8,7]"},
		{"two like pieces", "X-[2,1,1,2] X-[3,4,4,3] O", "X-[1,2,2,1] X-[3,4,4,3] O"},
		{"three like pieces, arcs mixed", "X+[6,6,2,2] X+[1,1,5,5] X+[3,3,4,4]", "X+[1,1,2,2] X+[3,3,4,4] X+[5,5,6,6]"},
		{"two like pieces, crossings mixed", "X+[2,3,1,4] X+[6,7,5,8] X-[1,3,2,4] X-[5,7,6,8]", "X-[1,2,3,4] X+[3,2,1,4] X-[5,6,7,8] X+[7,6,5,8]"},
	} {
		d, e := canon.Canon(samples.OfText(x.text))
		if s, f := code.Show(d); e != api.OK || f != api.OK || s != x.want {
			t.Errorf("%s: %v, %v, %q, %v; wanted: %q", x.what, d, e, s, f, x.want)
		}
	}
}

// orders of the numbers below n: all of them.
func orders(n int) [][]int {
	if n == 0 {
		return [][]int{nil}
	}
	var l [][]int
	for _, order := range orders(n - 1) {
		for at := range n {
			l = append(l, slices.Insert(slices.Clone(order), at, n-1))
		}
	}
	return l
}

// P4.2: unlike pieces of as many crossings, in whatever order they are told: those of one crossing, whose codes are, in order, 0 02 03 00 01; 0 03 02 01 00; 1 01 00 03 02; 1 02 03 00 01.
func TestCanonOfUnlikePieces(t *testing.T) {
	texts := []string{"X-[1,2,1,2]", "X-[2,1,1,2]", "X+[2,2,1,1]", "X+[2,1,2,1]"}
	want := "X-[1,2,1,2] X-[3,4,4,3] X+[5,5,6,6] X+[7,8,7,8] O"
	for _, order := range orders(len(texts)) {
		d := samples.With(1)
		for _, i := range order {
			d = samples.Beside(d, samples.OfText(texts[i]))
		}
		if s, e := code.Show(form(t, d)); e != api.OK || s != want {
			t.Errorf("%v: %q, %v; wanted: %q", order, s, e, want)
		}
	}
}

// P4.2: whatever numbers arcs and crossings have, the form is the same; it is its own form, and the same diagram.
func TestCanonOfRenamedOnes(t *testing.T) {
	die := samples.Die(9)
	for _, d := range samples.EveryOne() {
		want := form(t, d)
		if again := form(t, want); !samples.Alike(again, want) {
			t.Fatal(d, want, "has another form:", again)
		}
		if len(d.Crosses) <= 8 && !isOne(d, want) || !same(t, d, want) {
			t.Fatal(d, "is another diagram than", want)
		}
		for range 5 {
			other := samples.Renamed(&die, d)
			if got := form(t, other); !samples.Alike(got, want) || !same(t, other, d) {
				t.Fatal(d, "and", other, "have the forms", want, got)
			}
		}
	}
}

// changed: the diagram, at one of whose crossings the other strand is above.
func changed(die *samples.Die, d api.Diagram) api.Diagram {
	c := &d.Crosses[die.Below(len(d.Crosses))]
	if c.Plus {
		*c = crossOf([]int{c.D, c.A, c.B, c.C}, false)
	} else {
		*c = crossOf([]int{c.B, c.C, c.D, c.A}, true)
	}
	return d
}

// P4.2: small diagrams have the same form just if they are one.
func TestSameOfSmallOnes(t *testing.T) {
	die := samples.Die(10)
	count := map[bool]int{}
	for i := range 6000 {
		a, b := samples.Knotted(&die, 1+i%4), samples.Knotted(&die, 1+i%4)
		if i%3 == 0 {
			b = changed(&die, samples.Renamed(&die, a))
		}
		if i%5 == 0 {
			a, b = samples.Beside(a, b), samples.Beside(b, a)
		}
		want := isOne(a, b)
		if same(t, a, b) != want || same(t, b, a) != want {
			t.Fatal(a, b, "wanted:", want)
		}
		count[want]++
	}
	if count[true] < 500 || count[false] < 500 {
		t.Error("too few of one kind:", count)
	}
}

// P4.2: loops count, and nothing else does beside crossings.
func TestSameOfLoops(t *testing.T) {
	for a := range api.MaxLoops + 1 {
		for b := range api.MaxLoops + 1 {
			if a > 0 && b > 0 && same(t, samples.With(a), samples.With(b)) != (a == b) {
				t.Error(a, b, "loops alone")
			}
			x, y := samples.Trefoil(), samples.OfText("X-[6,3,1,4] X-[2,5,3,6] X-[4,1,5,2]")
			x.Loops, y.Loops = a, b
			if same(t, x, y) != (a == b) {
				t.Error(a, b, "loops")
			}
			if a > 0 && same(t, samples.With(a), y) || a > 0 && same(t, y, samples.With(a)) {
				t.Error(a, "loops alone are not", y)
			}
		}
	}
}

// P4.2: what is not the same, though much of it is.
func TestSameOfUnlikeOnes(t *testing.T) {
	curl, other := samples.OfText("X-[1,2,2,1]"), samples.OfText("X+[1,1,2,2]")
	for _, x := range []struct {
		what string
		a, b api.Diagram
	}{
		{"two curls", curl, other},
		{"rings that cross once, and a curl", samples.OfText("X-[1,2,1,2]"), curl},
		{"one of the pieces is another one", samples.Beside(curl, curl), samples.Beside(curl, other)},
		{"one piece more", curl, samples.Beside(curl, curl)},
		{"as many crossings in other pieces", samples.Beside(samples.Chain(2, true), samples.Chain(4, true)), samples.Beside(samples.Trefoil(), samples.Trefoil())},
		{"one winding more", samples.Chain(api.MaxCross, true), samples.Chain(api.MaxCross-1, true)},
		{"the other way round", samples.Chain(api.MaxCross, true), samples.Chain(api.MaxCross, false)},
	} {
		if same(t, x.a, x.b) || same(t, x.b, x.a) {
			t.Error(x.what)
		}
	}
}

// P4.2: as many crossings and loops as may be, and one more of each.
func TestCanonOfSizes(t *testing.T) {
	die := samples.Die(11)
	for _, crosses := range []int{0, 1, api.MaxCross - 1, api.MaxCross, api.MaxCross + 1} {
		for _, loops := range []int{-1, 0, 1, api.MaxLoops, api.MaxLoops + 1} {
			d := samples.Chain(crosses, true)
			d.Loops = loops
			c, e := canon.Canon(d)
			if crosses > api.MaxCross || loops < 0 || loops > api.MaxLoops || crosses+loops == 0 {
				if !refused(c, e, api.ErrState) {
					t.Error(crosses, loops, c, e)
				}
				continue
			}
			if e != api.OK || len(c.Crosses) != crosses || c.Loops != loops || !same(t, d, samples.Renamed(&die, d)) {
				t.Error(crosses, loops, c, e)
			}
		}
	}
}

// P4.2, P4.3: what may not be is refused, ahead of a part that there is not; and nothing else is told.
func TestRefused(t *testing.T) {
	for _, x := range samples.WrongOnes() {
		if d, e := canon.Canon(x.Diagram); !refused(d, e, api.ErrState) {
			t.Error("Canon:", x.What, d, e)
		}
		if d, e := canon.Mirror(x.Diagram); !refused(d, e, api.ErrState) {
			t.Error("Mirror:", x.What, d, e)
		}
		for _, part := range []int{-1, 0, 1, 99} {
			if d, e := canon.Reverse(x.Diagram, part); !refused(d, e, api.ErrState) {
				t.Error("Reverse:", x.What, part, d, e)
			}
		}
		for _, y := range append(samples.WrongOnes(), samples.RightOnes()...) {
			if s, e := canon.Same(x.Diagram, y.Diagram); e != api.ErrState || s {
				t.Error("Same:", x.What, y.What, s, e)
			}
			if s, e := canon.Same(y.Diagram, x.Diagram); e != api.ErrState || s {
				t.Error("Same:", y.What, x.What, s, e)
			}
		}
	}
}
