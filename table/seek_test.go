package table_test

import (
	"slices"
	"testing"

	"knotwork/api"
	"knotwork/bracket"
	"knotwork/code"
	"knotwork/moved"
	"knotwork/moves"
	"knotwork/samples"
)

// The document's example: of the trefoil there is no way to none, nor of its mirror image.
func TestTrefoil(t *testing.T) {
	shortest(t, samples.Trefoil(), -1)
	shortest(t, moved.Mirrored(samples.Trefoil()), -1)
}

// P16.2: ways that can be told by hand.
func TestByHand(t *testing.T) {
	for s, want := range map[string][]api.Move{
		"O":                           nil,
		"O O O":                       nil,
		"X-[1,2,2,1]":                 {uncurl(0)},
		"X+[2,2,1,1] O":               {uncurl(0)},
		"X+[3,2,1,4] X-[1,2,3,4]":     {pull(0, 1)},
		"X+[3,2,1,4] X-[1,2,3,4] O O": {pull(0, 1)},
	} {
		for depth := len(want); depth <= mostDepth; depth++ {
			if got := way(t, samples.OfText(s), depth); !slices.Equal(got, want) {
				t.Error(s, depth, got, "wanted:", want)
			}
		}
		shortest(t, samples.OfText(s), len(want))
	}
}

// P16.2: no crossing is left of loops alone; no move is needed, however few there may be.
func TestLoops(t *testing.T) {
	for loops := 1; loops <= api.MaxLoops; loops++ {
		shortest(t, samples.With(loops), 0)
	}
}

// P16.2: each curl that lies apart needs a move of its own, and each ring that lies upon another one; where there are more than may be done, there is no way.
func TestOneByOne(t *testing.T) {
	for count := 1; count <= mostCross; count++ {
		for by := range 4 {
			want := count
			if count > mostDepth {
				want = -1
			}
			shortest(t, moved.CurlsApart(count, by), want)
			shortest(t, moved.Curls(count, by), want)
		}
		if count <= mostCross/2 {
			shortest(t, moved.RingsUpon(count), count)
			shortest(t, samples.Beside(moved.RingsUpon(count), samples.With(2)), count)
		}
	}
	shortest(t, samples.Beside(moved.RingsUpon(3), moved.CurlsApart(2, 1)), 5)
	shortest(t, samples.Beside(moved.RingsUpon(2), moved.CurlsApart(4, 2)), -1)
}

// P16.2: a Slide is done where nothing else leads on, and where it makes a way shorter.
func TestSlides(t *testing.T) {
	first := samples.Weave(3, []int{1, 2, 1, -2, -1, -2})
	if _, taken, _ := moves.Simple(first); len(taken) != 0 {
		t.Error("Simple takes out", taken)
	}
	shortest(t, first, 4)
	if kinds := byWay(first); !slices.Equal(kinds, []int{api.Slide, api.Pull, api.Pull, api.Pull}) {
		t.Error(kinds)
	}
	for _, d := range slidOnes() {
		if !slices.Contains(byWay(d), api.Slide) {
			t.Error(d, byWay(d))
		}
	}
	later := samples.Weave(3, []int{1, 1, 2, 1, -2, -1, -2, -1})
	shortest(t, later, 5)
}

// P16.2: a Pull takes two crossings out that Simple would take out by one Uncurl each: as few moves as can be are told.
func TestFewerThanSimple(t *testing.T) {
	fewer := 0
	for _, d := range smallOnes(mostCross) {
		left, taken, _ := moves.Simple(d)
		if len(left.Crosses) > 0 || len(taken) > mostDepth {
			continue
		}
		if l := way(t, d, mostDepth); len(l) > len(taken) {
			t.Error(d, l, taken)
		} else if len(l) < len(taken) {
			fewer++
		}
	}
	if fewer < 5 {
		t.Error("too few ways are shorter", fewer)
	}
}

// P16.2: a move that would make too many loops can't be done; then there may be no way at all.
func TestTooManyLoops(t *testing.T) {
	beside := func(d api.Diagram, loops int) api.Diagram { return samples.Beside(d, samples.With(loops)) }
	for by := range 4 {
		shortest(t, beside(moved.Curls(1, by), api.MaxLoops-1), 1)
		shortest(t, beside(moved.Curls(1, by), api.MaxLoops), -1)
		shortest(t, beside(moved.Curls(3, by), api.MaxLoops-1), 3)
		shortest(t, beside(moved.Curls(3, by), api.MaxLoops), -1)
		shortest(t, beside(moved.CurlsApart(2, by), api.MaxLoops-2), 2)
		shortest(t, beside(moved.CurlsApart(2, by), api.MaxLoops-1), -1)
	}
	shortest(t, beside(moved.RingsUpon(1), api.MaxLoops-2), 1)
	shortest(t, beside(moved.RingsUpon(1), api.MaxLoops-1), -1)
	shortest(t, beside(moved.RingsUpon(3), api.MaxLoops-4), 3)
	shortest(t, beside(moved.RingsUpon(3), api.MaxLoops-3), -1)
}

// P16.2: whatever numbers crossings and arcs have, and mirrored or reversed, ways are as long.
func TestAsLong(t *testing.T) {
	die := samples.Die(162)
	for _, d := range append(smallOnes(6), slidOnes()...) {
		want := -1
		if kinds := byWay(d); len(kinds) > 0 || len(d.Crosses) == 0 {
			want = len(kinds)
		}
		for _, other := range []api.Diagram{samples.Renamed(&die, d), moved.Mirrored(d), moved.Turned(&die, d)} {
			shortest(t, other, want)
		}
	}
}

// What comes of it: where there is a way, Jones's polynomial is that of loops; where it is another one, there is no way.
func TestJonesOfLoops(t *testing.T) {
	ways, others := 0, 0
	for _, d := range append(smallOnes(mostCross), slidOnes()...) {
		got, e := bracket.Jones(d)
		want, f := bracket.Jones(samples.With(moved.Parts(d)))
		if e != api.OK || f != api.OK {
			t.Fatal(d, e, f)
		}
		if kinds := byWay(d); len(kinds) > 0 {
			ways++
			if !slices.Equal(got, want) {
				t.Error(d, kinds, got)
			}
		} else if !slices.Equal(got, want) {
			others++
			shortest(t, d, -1)
		}
	}
	if ways < 20 || others < 20 {
		t.Error("too few", ways, others)
	}
}

// P16.2: eight crossings are not too many, whether there is a way or not.
func TestEightCrossings(t *testing.T) {
	d := samples.Weave(3, []int{-2, -1, -1, -2, 1, 1, 2, 1})
	if planar, e := code.Planar(d); len(d.Crosses) != mostCross || e != api.OK || !planar {
		t.Fatal(d)
	}
	shortest(t, d, 5)
	shortest(t, samples.Chain(mostCross, true), -1)
	shortest(t, samples.Weave(2, []int{1, 1, 1, 1, -1, -1, -1, -1}), 4)
}
