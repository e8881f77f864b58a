package gauss_test

import (
	"slices"
	"testing"

	"knotwork/api"
	"knotwork/code"
	"knotwork/gauss"
	"knotwork/samples"
)

// built: the diagram of visits, which must be one.
func built(t *testing.T, visits, plus string) api.Diagram {
	t.Helper()
	d, e := gauss.Build(walks(visits), signs(plus), 0)
	if e != api.OK {
		t.Fatal(visits, plus, e)
	}
	return d
}

// P3.4: codes that were found by hand.
func TestDowkerByHand(t *testing.T) {
	for _, x := range []struct {
		what, visits, plus string
		want               []int
	}{
		{"the trefoil", "(0_ 2^ 1_ 0^ 2_ 1^)", "---", []int{-4, -6, -2}},
		{"the trefoil, begun above", "(1^ 0_ 2^ 1_ 0^ 2_)", "---", []int{4, 6, 2}},
		{"a curl, its even visit above", "(0_ 0^)", "+", []int{-2}},
		{"a curl, its even visit below", "(0^ 0_)", "-", []int{2}},
		{"two curls, one of each kind", "(0_ 0^ 1^ 1_)", "+-", []int{-2, 4}},
		{"two curls, one within the other", "(0^ 1^ 1_ 0_)", "++", []int{4, -2}},
		{"the figure of eight", "(0^ 3_ 1^ 0_ 2^ 1_ 3^ 2_)", "+-+-", []int{4, 6, 8, 2}},
		{"the same walk with signs that cannot be drawn", "(0^ 3_ 1^ 0_ 2^ 1_ 3^ 2_)", "++++", []int{4, 6, 8, 2}},
		{"the same walk, some crossings changed", "(0_ 3_ 1^ 0^ 2^ 1_ 3^ 2_)", "--+-", []int{-4, 6, 8, 2}},
	} {
		if got, e := gauss.Dowker(built(t, x.visits, x.plus)); e != api.OK || !slices.Equal(got, x.want) {
			t.Errorf("%s: %v, %v; wanted: %v", x.what, got, e, x.want)
		}
	}
}

// P3.4: ErrKnot, and ErrPlane.
func TestDowkerRefused(t *testing.T) {
	virtual := built(t, "(0^ 1^ 0_ 1_)", "++")
	looped := func(d api.Diagram) api.Diagram { return samples.With(1, d.Crosses...) }
	for _, x := range []struct {
		what string
		d    api.Diagram
		want api.Errno
	}{
		{"one loop", samples.With(1), api.ErrKnot},
		{"loops alone", samples.With(api.MaxLoops), api.ErrKnot},
		{"a link of two parts", samples.Chain(2, true), api.ErrKnot},
		{"as many crossings as may be, of two parts", samples.Chain(api.MaxCross, true), api.ErrKnot},
		{"two rings that cross once", samples.OfText("X-[1,2,1,2]"), api.ErrKnot},
		{"two knots beside one another", samples.Beside(samples.Trefoil(), samples.Trefoil()), api.ErrKnot},
		{"a knot beside a loop", looped(samples.Trefoil()), api.ErrKnot},
		{"a knot that cannot be drawn beside a loop", looped(virtual), api.ErrKnot},
		{"a knot that cannot be drawn beside one that can", samples.Beside(virtual, samples.Trefoil()), api.ErrKnot},
		{"crossings with two odd and two even numbers", virtual, api.ErrPlane},
		{"the same with other signs", built(t, "(0^ 1^ 0_ 1_)", "+-"), api.ErrPlane},
		{"the last two crossings alone", built(t, "(0^ 0_ 1^ 2_ 1_ 2^)", "+++"), api.ErrPlane},
		{"the first two crossings alone", built(t, "(0^ 1_ 0_ 1^ 2_ 2^)", "+++"), api.ErrPlane},
	} {
		if got, e := gauss.Dowker(x.d); e != x.want || len(got) != 0 {
			t.Error(x.what, got, e, "wanted:", x.want)
		}
	}
}

// numbered: a knot's code by the words of P3.4.
func numbered(d api.Diagram) ([]int, api.Errno) {
	l, _, _ := gauss.Gauss(d)
	if len(l) != 1 || d.Loops != 0 {
		return nil, api.ErrKnot
	}
	var code []int
	for i := 1; i <= len(l[0]); i += 2 {
		odd := l[0][i-1]
		even := 1 + slices.Index(l[0], api.Visit{Cross: odd.Cross, Over: !odd.Over})
		if even%2 == 1 {
			return nil, api.ErrPlane
		}
		if !odd.Over {
			even = -even
		}
		code = append(code, even)
	}
	return code, api.OK
}

// drawnKnots: diagrams among which are many of one part.
func drawnKnots() []api.Diagram {
	l := samples.EveryOne()
	die := samples.Die(7)
	for i := range 500 {
		visits, plus := drawnWalks(&die, 1+i%api.MaxCross, 1)
		d, _ := gauss.Build(visits, plus, die.Below(10)/9)
		l = append(l, d, samples.Woven(&die, 2+i%(api.MaxCross-1)))
	}
	return append(l, samples.Chain(api.MaxCross-1, false), samples.Weave(3, slices.Repeat([]int{1, -2}, api.MaxCross/2)))
}

// P3.4: of all kinds of diagrams; a planar knot's code has just the even numbers up to 2n.
func TestDowker(t *testing.T) {
	count := map[api.Errno]int{}
	longest := 0
	for _, d := range drawnKnots() {
		want, refused := numbered(d)
		got, e := gauss.Dowker(d)
		if e != refused || !slices.Equal(got, want) {
			t.Fatal(d, got, e, "wanted:", want, refused)
		}
		count[e]++
		if planar, _ := code.Planar(d); planar && e != api.ErrKnot {
			longest = max(longest, len(got))
			if e != api.OK || !evenOnes(got) {
				t.Fatal(d, got, e)
			}
		}
	}
	if count[api.OK] < 100 || count[api.ErrKnot] < 100 || count[api.ErrPlane] < 100 || longest != api.MaxCross {
		t.Error("too few of one kind:", count, longest)
	}
}

// evenOnes: does each even number from 2 on stand there just once?
func evenOnes(l []int) bool {
	var sizes []int
	for _, x := range l {
		sizes = append(sizes, max(x, -x))
	}
	slices.Sort(sizes)
	for i, x := range sizes {
		if x != 2*i+2 {
			return false
		}
	}
	return true
}
