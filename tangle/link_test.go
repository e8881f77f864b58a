package tangle_test

import (
	"slices"
	"testing"

	"knotwork/alex"
	"knotwork/api"
	"knotwork/canon"
	"knotwork/code"
	"knotwork/moved"
	"knotwork/poly"
	"knotwork/samples"
)

// P12.1, P12.3: links that were drawn by hand.
func TestLinkByHand(t *testing.T) {
	for _, x := range []struct {
		what string
		list []int
		want string
	}{
		{"nothing", []int{0}, "O O"},
		{"nothing, three times", []int{0, 0, 0}, "O O"},
		{"a curl", []int{1}, "X-[1,2,2,1]"},
		{"the other curl", []int{-1}, "X+[1,1,2,2]"},
		{"a curl below, a loop above it", []int{0, 1, 0}, "X-[1,2,2,1] O"},
		{"the other curl below", []int{0, -1, 0}, "X+[1,1,2,2] O"},
		{"two linked rings", []int{2}, "X-[1,3,2,4] X-[4,2,3,1]"},
		{"two linked rings, the other way", []int{-2}, "X-[1,3,2,4] X-[4,2,3,1]"},
		{"both at the end", []int{0, 0, 2}, "X-[1,3,2,4] X-[4,2,3,1]"},
		{"one ahead, one at the end", []int{1, 0, 1}, "X-[1,3,2,4] X-[4,2,3,1]"},
		{"one to the right, one below", []int{1, 1, 0}, "X-[1,4,2,1] X-[3,2,4,3]"},
		{"one to the right, the other one below", []int{1, -1, 0}, "X-[1,4,2,1] X+[2,4,3,3]"},
		{"the trefoil", []int{3}, "X-[1,4,2,5] X-[5,2,6,3] X-[3,6,4,1]"},
		{"the figure of eight", []int{2, 1, 1}, "X+[1,7,2,6] X+[5,3,6,2] X-[7,4,8,5] X-[3,8,4,1]"},
	} {
		if s, e := code.Show(link(t, x.list)); e != api.OK || s != x.want {
			t.Errorf("%s: %q, %v; wanted: %q", x.what, s, e, x.want)
		}
	}
}

// P12.1, P12.3: of many lists, number by number; they lie on a sphere, and have as many crossings as the list tells.
func TestLink(t *testing.T) {
	parts, loops, plusses := map[int]int{}, map[int]int{}, map[bool]int{}
	for _, l := range rightOnes() {
		got, want := link(t, l), linkByWords(l)
		if !samples.Alike(got, want) {
			t.Fatal(l, got, "wanted:", want)
		}
		if planar, e := code.Planar(got); !planar || e != api.OK || len(got.Crosses) != sizes(l) {
			t.Fatal(l, got, planar, e)
		}
		parts[moved.Parts(got)]++
		loops[got.Loops]++
		for _, c := range got.Crosses {
			plusses[c.Plus]++
		}
	}
	if parts[1] < 1000 || parts[2] < 1000 || loops[0] < 1000 || loops[1] < 20 || loops[2] < 5 || plusses[true] < 1000 || plusses[false] < 1000 {
		t.Error("too few:", parts, loops, plusses)
	}
}

// P12.3: a number 0 changes nothing: who twists on at the same side may as well have done it at once.
func TestLinkTogether(t *testing.T) {
	for _, l := range all(5, 2) {
		for i, x := range l {
			for ahead := -2; ahead <= 2; ahead++ {
				if ahead*x < 0 {
					continue
				}
				two := slices.Concat(l[:i], []int{ahead, 0, x}, l[i+1:])
				one := slices.Concat(l[:i], []int{ahead + x}, l[i+1:])
				if got, want := link(t, two), link(t, one); !samples.Alike(got, want) {
					t.Fatal(two, got, "wanted:", want)
				}
			}
		}
	}
}

// P12.3: with all signs changed a list's link is the mirror image, whichever directions its parts have.
func TestLinkMirrored(t *testing.T) {
	knots := 0
	for _, l := range rightOnes() {
		other := link(t, turned(l))
		if !anyway(t, moved.Mirrored(link(t, l)), other) {
			t.Fatal(l, other)
		}
		if moved.Knot(other) {
			knots++
		}
	}
	if knots < 1000 {
		t.Error("too few:", knots)
	}
}

// anyway: are diagrams of one or two parts the same, if some of these run the other way round?
func anyway(t *testing.T, a, b api.Diagram) bool {
	t.Helper()
	for turns := range 4 {
		turned := a
		for part := range 2 {
			if turns>>part&1 == 1 {
				if other, e := canon.Reverse(turned, part); e == api.OK {
					turned = other
				}
			}
		}
		if same, e := canon.Same(turned, b); e != api.OK {
			t.Fatal(a, b, e)
		} else if same {
			return true
		}
	}
	return false
}

// The document's example, and the chapter's: 3 is the trefoil of chapter 2; 2, 1, 1 is the figure of eight.
func TestKnownLinks(t *testing.T) {
	for _, x := range []struct {
		what string
		list []int
		want api.Diagram
	}{
		{"the trefoil", []int{3}, samples.Trefoil()},
		{"its mirror image", []int{-3}, samples.Chain(3, true)},
		{"five crossings, two strands", []int{5}, samples.Chain(5, false)},
		{"the figure of eight", []int{2, 1, 1}, samples.Weave(3, []int{1, -2, 1, -2})},
	} {
		if same, e := canon.Same(link(t, x.list), x.want); !same || e != api.OK {
			t.Error(x.what, link(t, x.list), "wanted:", x.want)
		}
	}
	for _, x := range []struct {
		what string
		list []int
		want string
	}{
		{"five crossings, the second", []int{3, 1, 1}, "2 - 3*t + 2*t^2"},
		{"six crossings, the first", []int{4, 1, 1}, "2 - 5*t + 2*t^2"},
		{"six crossings, the second", []int{3, 1, 2}, "1 - 3*t + 3*t^2 - 3*t^3 + t^4"},
		{"six crossings, the third", []int{2, 1, 1, 1, 1}, "1 - 3*t + 5*t^2 - 3*t^3 + t^4"},
		{"seven crossings, the second", []int{5, 1, 1}, "3 - 5*t + 3*t^2"},
		{"seven crossings, the fourth", []int{3, 1, 3}, "4 - 7*t + 4*t^2"},
	} {
		a, _ := alex.Alexander(link(t, x.list))
		if got, e := poly.Text(a); got != x.want || e != api.OK {
			t.Error(x.what, got, "wanted:", x.want)
		}
	}
}

// What comes of it: the determinant is the size of p; there is one part, if p is odd, else two.
func TestDeterminant(t *testing.T) {
	asked := map[int]int{}
	for _, l := range rightOnes() {
		p, _ := fraction(t, l)
		d := link(t, l)
		if parts := moved.Parts(d); parts != 2-size(p)%2 {
			t.Fatal(l, p, "parts:", parts)
		}
		if len(d.Crosses) > 10 {
			continue
		}
		if got, e := alex.Determinant(d); got != size(p) || e != api.OK {
			t.Fatal(l, p, got, e)
		}
		asked[min(size(p), 5)]++
	}
	for p := range 6 {
		if asked[p] < 100 {
			t.Error("too few:", p, asked)
		}
	}
}

// least: a fraction's p above 0, and the q from 1 on (below p) that gives the same link: to q a multiple of p may be added.
func least(p, q int) (int, int) {
	if p < 0 {
		p, q = -p, -q
	}
	if p == 1 {
		return 1, 1
	}
	return p, (q%p + p) % p
}

// What comes of it: whatever signs a list has, its link is that of the list of numbers above 0 to which its fraction leads: their Jones polynomials are the same, if p is odd.
func TestLinkOfFraction(t *testing.T) {
	asked, long := 0, 0
	for _, l := range slices.Concat(all(3, 4), all(5, 2)) {
		p, q := fraction(t, l)
		if p%2 == 0 || sizes(l) > 9 {
			continue
		}
		r, s := least(p, q)
		other := expand(t, r, s)
		want := jones(t, link(t, other))
		if got := jones(t, link(t, l)); !slices.Equal(got, want) {
			t.Fatal(l, p, q, got, other, "wanted:", want)
		}
		asked++
		if len(want) > 1 {
			long++
		}
	}
	if asked < 1000 || long < 500 {
		t.Error("too few:", asked, long)
	}
}
