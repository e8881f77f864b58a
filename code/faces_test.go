package code_test

import (
	"cmp"
	"slices"
	"testing"

	"knotwork/api"
	"knotwork/code"
	"knotwork/samples"
)

// ring of darts: arcs, with - ahead of those that go back.
func ring(arcs ...int) []api.Dart {
	var l []api.Dart
	for _, a := range arcs {
		l = append(l, api.Dart{Arc: max(a, -a), Back: a < 0})
	}
	return l
}

// P2.2: faces that were found by hand.
func TestFaces(t *testing.T) {
	for _, x := range []struct {
		text string
		want [][]api.Dart
	}{
		{"X-[1,4,2,5] X-[3,6,4,1] X-[5,2,6,3]", [][]api.Dart{ring(1, 5, 3), ring(-1, 4), ring(2, -5), ring(-2, -4, -6), ring(-3, 6)}},
		{"X+[1,1,2,2]", [][]api.Dart{ring(1, -2), ring(-1), ring(2)}},
		{"X-[1,2,2,1]", [][]api.Dart{ring(1), ring(-1, 2), ring(-2)}},
		{"X-[1,2,1,2]", [][]api.Dart{ring(1, 2, -1, -2)}},
		{"X+[1,2,1,2]", [][]api.Dart{ring(1, -2, -1, 2)}},
		{"X+[1,1,2,2] O O X-[3,4,4,3]", [][]api.Dart{ring(1, -2), ring(-1), ring(2), ring(3), ring(-3, 4), ring(-4)}},
		{"X+[4,2,1,3] X+[2,4,3,1]", [][]api.Dart{ring(1, 3), ring(-1, 2), ring(-2, -4), ring(-3, 4)}},
		{"X+[2,3,1,4] X+[1,4,2,3]", [][]api.Dart{ring(1, -3, -2, 4), ring(-1, 3, 2, -4)}},
		{"O", nil},
		{"O O O", nil},
	} {
		got, e := code.Faces(read(t, x.text))
		if e != api.OK || !slices.EqualFunc(got, x.want, slices.Equal[[]api.Dart]) {
			t.Errorf("%q: %v, %v; wanted: %v", x.text, got, e, x.want)
		}
	}
}

// corner: who comes to a crossing along one dart goes on along another.
type corner struct{ from, to api.Dart }

// corners of a crossing, as the words of P2.2 say.
func corners(c api.Cross) []corner {
	own := func(arc int) api.Dart { return api.Dart{Arc: arc} }
	back := func(arc int) api.Dart { return api.Dart{Arc: arc, Back: true} }
	if c.Plus {
		return []corner{{own(c.A), back(c.D)}, {back(c.B), back(c.A)}, {back(c.C), own(c.B)}, {own(c.D), own(c.C)}}
	}
	return []corner{{own(c.A), own(c.D)}, {own(c.B), back(c.A)}, {back(c.C), back(c.B)}, {back(c.D), own(c.C)}}
}

// order of darts.
func order(a, b api.Dart) int {
	if a.Arc != b.Arc || a.Back == b.Back {
		return cmp.Compare(a.Arc, b.Arc)
	}
	if b.Back {
		return -1
	}
	return 1
}

// P2.2: of drawn ones: each dart lies in just one face, behind the one behind which it comes; each face begins with its least dart, and they are in the order of these.
func TestFacesOfDrawnOnes(t *testing.T) {
	for _, d := range samples.DrawnOnes() {
		next := map[api.Dart]api.Dart{}
		for _, c := range d.Crosses {
			for _, x := range corners(c) {
				next[x.from] = x.to
			}
		}
		faces, e := code.Faces(d)
		if e != api.OK || len(next) != 4*len(d.Crosses) {
			t.Fatal(d, faces, e)
		}
		seen := map[api.Dart]bool{}
		for i, f := range faces {
			for j, x := range f {
				if seen[x] || next[x] != f[(j+1)%len(f)] {
					t.Fatal(d, faces, "goes on otherwise behind", x)
				}
				seen[x] = true
			}
			if slices.MinFunc(f, order) != f[0] || i > 0 && order(faces[i-1][0], f[0]) > 0 {
				t.Fatal(d, faces, "is not in order")
			}
		}
		if len(seen) != len(next) {
			t.Fatal(d, faces, "lacks darts")
		}
	}
}

// P2.3: diagrams that lie on a sphere, and such as do not.
func TestPlanar(t *testing.T) {
	crossOnce, otherOnce := read(t, "X-[1,2,1,2]"), read(t, "X+[1,2,1,2]")
	virtual := read(t, "X+[3,2,4,1] X+[4,3,1,2]") // between both visits of a crossing it comes to one other crossing: an odd number
	for _, x := range []struct {
		what string
		d    api.Diagram
		want bool
	}{
		{"one loop", samples.With(1), true},
		{"loops alone", samples.With(api.MaxLoops), true},
		{"the trefoil", samples.Trefoil(), true},
		{"a curl", read(t, "X+[1,1,2,2]"), true},
		{"the other curl", read(t, "X-[1,2,2,1]"), true},
		{"two rings that cross once", crossOnce, false},
		{"the same, with Plus", otherOnce, false},
		{"with a loop", api.Diagram{Crosses: crossOnce.Crosses, Loops: 1}, false},
		{"with two loops", api.Diagram{Crosses: crossOnce.Crosses, Loops: 2}, false},
		{"a knot that cannot be drawn", virtual, false},
		{"two trefoils", samples.Beside(samples.Trefoil(), samples.Trefoil()), true},
		{"three pieces and loops", samples.Beside(samples.Chain(2, true), samples.Beside(samples.Trefoil(), samples.Chain(4, false))), true},
		{"a trefoil beside one that is not", samples.Beside(samples.Trefoil(), crossOnce), false},
		{"one that is not beside a trefoil", samples.Beside(crossOnce, samples.Trefoil()), false},
		{"two that are not", samples.Beside(crossOnce, otherOnce), false},
		{"as many crossings as may be", samples.Chain(api.MaxCross, true), true},
	} {
		if got, e := code.Planar(x.d); e != api.OK || got != x.want {
			t.Errorf("%s: %v: %v, %v; wanted: %v", x.what, x.d, got, e, x.want)
		}
	}
}

// pieces: the crossings of each piece, found by joining those that share an arc.
func pieces(d api.Diagram) [][]api.Cross {
	var all [][]api.Cross
	for _, c := range d.Crosses {
		joined := []api.Cross{c}
		var apart [][]api.Cross
		for _, p := range all {
			if slices.ContainsFunc(p, func(x api.Cross) bool { return share(x, c) }) {
				joined = append(joined, p...)
			} else {
				apart = append(apart, p)
			}
		}
		all = append(apart, joined)
	}
	return all
}

// share: have both an arc in common?
func share(a, b api.Cross) bool {
	return slices.ContainsFunc([]int{a.A, a.B, a.C, a.D}, func(arc int) bool {
		return slices.Contains([]int{b.A, b.B, b.C, b.D}, arc)
	})
}

// P2.3: of drawn ones: each piece is counted by itself.
func TestPlanarOfDrawnOnes(t *testing.T) {
	count := map[bool]int{}
	for _, d := range samples.DrawnOnes() {
		faces, _ := code.Faces(d)
		want := true
		for _, p := range pieces(d) {
			own := 0
			for _, f := range faces {
				arc := f[0].Arc
				if slices.ContainsFunc(p, func(c api.Cross) bool { return share(c, api.Cross{A: arc}) }) {
					own++
				}
			}
			want = want && own == len(p)+2
		}
		if got, e := code.Planar(d); e != api.OK || got != want {
			t.Fatal(d, got, e, "wanted:", want)
		}
		count[want]++
	}
	if count[true] < 50 || count[false] < 50 {
		t.Error("too few of one kind:", count)
	}
}

// P2.3: closed braids lie on a sphere.
func TestPlanarOfBraids(t *testing.T) {
	die := samples.Die(4)
	for range 200 {
		d := samples.Woven(&die, api.MaxCross)
		if got, e := code.Planar(d); e != api.OK || !got {
			t.Fatal(d, got, e)
		}
	}
}

// P2.2, P2.3, P2.4: what may not be is refused, and nothing else is told.
func TestRefused(t *testing.T) {
	for _, x := range samples.WrongOnes() {
		if f, e := code.Faces(x.Diagram); e != api.ErrState || len(f) != 0 {
			t.Error("Faces:", x.What, f, e)
		}
		if p, e := code.Planar(x.Diagram); e != api.ErrState || p {
			t.Error("Planar:", x.What, p, e)
		}
		if s, e := code.Show(x.Diagram); e != api.ErrState || s != "" {
			t.Error("Show:", x.What, s, e)
		}
	}
}
