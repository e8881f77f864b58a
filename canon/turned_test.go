package canon_test

import (
	"math"
	"slices"
	"testing"

	"knotwork/api"
	"knotwork/canon"
	"knotwork/code"
	"knotwork/gauss"
	"knotwork/samples"
)

// mirror of a diagram that may be.
func mirror(t *testing.T, d api.Diagram) api.Diagram {
	t.Helper()
	m, e := canon.Mirror(d)
	if e != api.OK || !code.May(m) {
		t.Fatal(d, m, e)
	}
	return m
}

// reverse a part that there is.
func reverse(t *testing.T, d api.Diagram, part int) api.Diagram {
	t.Helper()
	r, e := canon.Reverse(d, part)
	if e != api.OK || !code.May(r) {
		t.Fatal(d, part, r, e)
	}
	return r
}

// P4.3: diagrams that were mirrored by hand.
func TestMirrorByHand(t *testing.T) {
	for _, x := range []struct{ what, text, want string }{
		{"one loop", "O", "O"},
		{"loops alone", "O O O", "O O O"},
		{"the trefoil", "X-[1,4,2,5] X-[3,6,4,1] X-[5,2,6,3]", "X+[4,2,5,1] X+[6,4,1,3] X+[2,6,3,5]"},
		{"a curl", "X-[1,2,2,1] O", "X+[2,2,1,1] O"},
		{"the other curl", "X+[1,1,2,2]", "X-[2,1,1,2]"},
		{"two rings that cross once", "X-[1,2,1,2]", "X+[2,1,2,1]"},
		{"two linked rings", "X+[4,2,1,3] X+[2,4,3,1]", "X-[3,4,2,1] X-[1,2,4,3]"},
		{"two strands that cross to and fro", "X-[1,3,2,4] X+[2,3,1,4]", "X+[3,2,4,1] X-[4,2,3,1]"},
	} {
		if s, e := code.Show(mirror(t, samples.OfText(x.text))); e != api.OK || s != x.want {
			t.Errorf("%s: %q, %v; wanted: %q", x.what, s, e, x.want)
		}
	}
}

// round: does the one list go on as the other one does, from some place on?
func round(a, b []int) bool {
	for i := range a {
		if slices.Equal(slices.Concat(a[i:], a[:i]), b) {
			return true
		}
	}
	return false
}

// sameRounds: do the same arcs stand around each crossing, counterclockwise?
func sameRounds(a, b api.Diagram) bool {
	return a.Loops == b.Loops && slices.EqualFunc(a.Crosses, b.Crosses, func(x, y api.Cross) bool { return round(places(x), places(y)) })
}

// P4.3: each strand runs as before, but goes above where it went below; signs are turned, and what stands around each crossing is the same. Mirrored twice, a diagram is what it was.
func TestMirror(t *testing.T) {
	for _, d := range samples.EveryOne() {
		m := mirror(t, d)
		if !sameRounds(d, m) || planar(t, d) != planar(t, m) {
			t.Fatal(d, m)
		}
		if !slices.EqualFunc(strands(t, d), strands(t, m), slices.Equal[[]int]) {
			t.Fatal(d, m, "has other strands")
		}
		was, plusWas, _ := gauss.Gauss(d)
		is, plusIs, _ := gauss.Gauss(m)
		for i := range was {
			for j := range was[i] {
				was[i][j].Over = !was[i][j].Over
			}
			if !slices.Equal(was[i], is[i]) {
				t.Fatal(d, m, "visits", is[i], "wanted:", was[i])
			}
		}
		for k := range plusWas {
			if plusWas[k] == plusIs[k] {
				t.Fatal(d, m, "has an old sign at", k)
			}
		}
		if again := mirror(t, m); !samples.Alike(again, d) {
			t.Fatal(d, "mirrored twice:", again)
		}
	}
}

// P4.3: diagrams of which a part was reversed by hand.
func TestReverseByHand(t *testing.T) {
	for _, x := range []struct {
		what, text string
		part       int
		want       string
	}{
		{"the trefoil", "X-[1,4,2,5] X-[3,6,4,1] X-[5,2,6,3]", 0, "X-[2,5,1,4] X-[4,1,3,6] X-[6,3,5,2]"},
		{"a curl, with loops", "X-[1,2,2,1] O O", 0, "X-[2,1,1,2] O O"},
		{"the other curl", "X+[1,1,2,2]", 0, "X+[2,2,1,1]"},
		{"two rings that cross once, the one below", "X-[1,2,1,2]", 0, "X+[1,2,1,2]"},
		{"two rings that cross once, the one above", "X-[1,2,1,2]", 1, "X+[1,2,1,2]"},
		{"two linked rings, the first one", "X+[4,2,1,3] X+[2,4,3,1]", 0, "X-[1,3,4,2] X-[2,4,3,1]"},
		{"two linked rings, the second one", "X+[4,2,1,3] X+[2,4,3,1]", 1, "X-[4,2,1,3] X-[3,1,2,4]"},
		{"the first of two pieces", "X+[4,4,1,1] X-[2,3,3,2]", 0, "X+[1,1,4,4] X-[2,3,3,2]"},
		{"the second of two pieces", "X+[4,4,1,1] X-[2,3,3,2]", 1, "X+[4,4,1,1] X-[3,2,2,3]"},
	} {
		if s, e := code.Show(reverse(t, samples.OfText(x.text), x.part)); e != api.OK || s != x.want {
			t.Errorf("%s: %q, %v; wanted: %q", x.what, s, e, x.want)
		}
	}
}

// backward: a part's arcs the other way round, from the first one on.
func backward(part []int) []int {
	l := slices.Clone(part)
	slices.Reverse(l[1:])
	return l
}

// overs: of each crossing an arc of the strand above, the lower one.
func overs(d api.Diagram) []int {
	var l []int
	for _, c := range d.Crosses {
		l = append(l, min(c.B, c.D))
	}
	return l
}

// P4.3: the part runs the other way round, all others as before; the same strand is above at each crossing, and what stands around it is the same. A sign is turned where just one of both strands is of the part. Reversed twice, a diagram is what it was.
func TestReverse(t *testing.T) {
	signsOf := map[[2]bool]int{} // were the strand below, and the one above, of the part?
	for _, d := range samples.EveryOne() {
		for part, arcs := range strands(t, d) {
			r := reverse(t, d, part)
			if !sameRounds(d, r) || !slices.Equal(overs(d), overs(r)) || planar(t, d) != planar(t, r) {
				t.Fatal(d, part, r)
			}
			want := strands(t, d)
			want[part] = backward(arcs)
			if got := strands(t, r); !slices.EqualFunc(got, want, slices.Equal[[]int]) {
				t.Fatal(d, part, r, "has the strands", got, "wanted:", want)
			}
			for k, c := range d.Crosses {
				of := [2]bool{slices.Contains(arcs, c.A), slices.Contains(arcs, c.B)}
				signsOf[of]++
				if turned := c.Plus != r.Crosses[k].Plus; turned != (of[0] != of[1]) {
					t.Fatal(d, part, r, "crossing", k)
				}
			}
			if again := reverse(t, r, part); !samples.Alike(again, d) {
				t.Fatal(d, part, "reversed twice:", again)
			}
		}
	}
	if len(signsOf) != 4 {
		t.Error("too few kinds of crossings:", signsOf)
	}
}

// P4.3: if all parts are reversed, in whatever order, each crossing begins at C, and no sign is turned.
func TestReverseOfAll(t *testing.T) {
	for _, d := range samples.EveryOne() {
		up, down := d, d
		n := len(strands(t, d))
		for i := range n {
			up, down = reverse(t, up, i), reverse(t, down, n-1-i)
		}
		var want []api.Cross
		for _, c := range d.Crosses {
			want = append(want, crossOf([]int{c.C, c.D, c.A, c.B}, c.Plus))
		}
		if !slices.Equal(up.Crosses, want) || !slices.Equal(down.Crosses, want) {
			t.Fatal(d, up, down, "wanted:", want)
		}
	}
}

// P4.3: which parts there are: the first and the last one, one more, and fewer than 0.
func TestReverseRange(t *testing.T) {
	ones := samples.EveryOne()
	ones = append(ones, samples.With(1), samples.With(api.MaxLoops), samples.Beside(samples.Trefoil(), samples.With(3)))
	for _, d := range ones {
		n := len(strands(t, d))
		if n > 0 {
			reverse(t, d, 0)
			reverse(t, d, n-1)
		}
		for _, part := range []int{-1, -n - 1, n, n + 1, n + d.Loops, math.MaxInt, math.MinInt} {
			if r, e := canon.Reverse(d, part); !refused(r, e, api.ErrRange) {
				t.Fatal(d, part, r, e)
			}
		}
	}
}

// What comes of it: the trefoil is its own reverse, not its own mirror image; the figure of eight's mirror image is its reverse.
func TestKnownSymmetries(t *testing.T) {
	trefoil, eight := samples.Trefoil(), samples.Weave(3, []int{1, -2, 1, -2})
	if !same(t, trefoil, reverse(t, trefoil, 0)) || same(t, trefoil, mirror(t, trefoil)) {
		t.Error("the trefoil")
	}
	if !same(t, mirror(t, eight), reverse(t, eight, 0)) {
		t.Error("the figure of eight")
	}
	if !same(t, mirror(t, samples.Chain(api.MaxCross, true)), samples.Chain(api.MaxCross, false)) {
		t.Error("two strands wound around one another")
	}
}
