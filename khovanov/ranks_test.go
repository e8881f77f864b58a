package khovanov_test

import (
	"slices"
	"testing"

	"knotwork/api"
	"knotwork/bracket"
	"knotwork/gauss"
	"knotwork/moved"
	"knotwork/samples"
	"knotwork/sign"
	"knotwork/tangle"
	"knotwork/terms"
)

// flipped: all degrees with the other sign.
func flipped(l []api.Term2) []api.Term2 {
	p := terms.Pairs{}
	for _, term := range l {
		p[terms.Pair{X: -term.X, Z: -term.Z}] = term.Coef
	}
	return p.InForm()
}

// The chapter's example, and others that were worked out by hand.
func TestByHand(t *testing.T) {
	for _, x := range []struct {
		what string
		d    api.Diagram
		want map[int]string
	}{
		{"one loop", samples.With(1), map[int]string{0: "t^-1 + t"}},
		{"one loop, an empty list of crossings", api.Diagram{Crosses: []api.Cross{}, Loops: 1}, map[int]string{0: "t^-1 + t"}},
		{"two loops", samples.With(2), map[int]string{0: "t^-2 + 2 + t^2"}},
		{"a curl", samples.OfText("X-[1,2,2,1]"), map[int]string{0: "t^-1 + t"}},
		{"a curl that is Plus, and a loop", samples.OfText("X+[1,1,2,2] O"), map[int]string{0: "t^-2 + 2 + t^2"}},
		{"two rings, linked", samples.Chain(2, true), map[int]string{0: "1 + t^2", 2: "t^4 + t^6"}},
		{"two rings, linked the other way round", samples.Chain(2, false), map[int]string{-2: "t^-6 + t^-4", 0: "t^-2 + 1"}},
		{"two rings, linked, and a loop", samples.Beside(samples.Chain(2, true), samples.With(1)), map[int]string{0: "t^-1 + 2*t + t^3", 2: "t^3 + 2*t^5 + t^7"}},
		{"the trefoil", samples.Trefoil(), map[int]string{-3: "t^-9 + t^-7", -2: "t^-7 + t^-5", 0: "t^-3 + t^-1"}},
		{"the trefoil, and two loops", samples.Beside(samples.Trefoil(), samples.With(2)), map[int]string{
			-3: "t^-11 + 3*t^-9 + 3*t^-7 + t^-5", -2: "t^-9 + 3*t^-7 + 3*t^-5 + t^-3", 0: "t^-5 + 3*t^-3 + 3*t^-1 + t"}},
	} {
		if got := ranks(t, x.d); !slices.Equal(got, byX(x.want)) {
			t.Error(x.what, got, "wanted:", byX(x.want))
		}
	}
}

// P15.2: knots and links whose ranks are known: those that are told here, times a ring's.
func TestKnown(t *testing.T) {
	for _, x := range []struct {
		what    string
		strands int
		word    []int
		want    map[int]string
	}{
		{"no knot", 3, []int{1, 1, 2, -1, -1, -1}, map[int]string{0: "1"}},
		{"the trefoil", 2, []int{1, 1, 1}, map[int]string{0: "t^2", 2: "t^6", 3: "t^8"}},
		{"the figure of eight", 3, []int{1, -2, 1, -2}, map[int]string{-2: "t^-4", -1: "t^-2", 0: "1", 1: "t^2", 2: "t^4"}},
		{"five crossings, the first", 2, []int{1, 1, 1, 1, 1}, map[int]string{0: "t^4", 2: "t^8", 3: "t^10", 4: "t^12", 5: "t^14"}},
		{"five crossings, the second", 3, []int{1, 1, 1, 2, -1, 2}, map[int]string{0: "t^2", 1: "t^4", 2: "2*t^6", 3: "t^8", 4: "t^10", 5: "t^12"}},
		{"six crossings, the second", 3, []int{-1, -1, -1, 2, -1, 2}, map[int]string{-4: "t^-10", -3: "2*t^-8", -2: "2*t^-6", -1: "2*t^-4", 0: "2*t^-2", 1: "1", 2: "t^2"}},
		{"six crossings, the third", 3, []int{-1, -1, 2, -1, 2, 2}, map[int]string{-3: "t^-6", -2: "2*t^-4", -1: "2*t^-2", 0: "3", 1: "2*t^2", 2: "2*t^4", 3: "t^6"}},
		{"two trefoils", 3, []int{1, 1, 1, 2, 2, 2}, map[int]string{0: "t^4", 2: "2*t^8", 3: "2*t^10", 4: "t^12", 5: "2*t^14", 6: "t^16"}},
		{"a trefoil and its mirror image", 3, []int{1, 1, 1, -2, -2, -2}, map[int]string{-3: "t^-6", -2: "t^-4", -1: "t^-2", 0: "3", 1: "t^2", 2: "t^4", 3: "t^6"}},
		{"two rings, linked twice", 2, []int{1, 1, 1, 1}, map[int]string{0: "t^3", 2: "t^7", 3: "t^9", 4: "t^11"}},
		{"Whitehead's link", 3, []int{1, -2, 1, -2, -2}, map[int]string{-3: "t^-7", -2: "2*t^-5", -1: "t^-3", 0: "2*t^-1", 1: "t", 2: "t^3"}},
		{"Borromeo's rings", 3, []int{1, -2, 1, -2, 1, -2}, map[int]string{-3: "t^-6", -2: "3*t^-4", -1: "2*t^-2", 0: "4", 1: "2*t^2", 2: "3*t^4", 3: "t^6"}},
		{"three rings in a row", 3, []int{1, 1, 2, 2}, map[int]string{0: "t^2", 2: "2*t^6", 4: "t^10"}},
		{"three rings, each linked with each", 3, []int{1, 2, 1, 2, 1, 2}, map[int]string{0: "t^4", 2: "t^8", 3: "t^10", 4: "t^10 + 2*t^12"}},
	} {
		d, want := samples.Weave(x.strands, x.word), product(byX(x.want), ringsApart(1))
		if got := ranks(t, d); !slices.Equal(got, want) {
			t.Error(x.what, got, "wanted:", want)
		}
		if got := ranks(t, moved.Mirrored(d)); !slices.Equal(got, flipped(want)) {
			t.Error(x.what, "mirrored", got, "wanted:", flipped(want))
		}
	}
}

// P15.2: of two strands that wind around one another: each first degree from 2 on has its place.
func TestChains(t *testing.T) {
	for n := 1; n <= most; n++ {
		l := []api.Term2{{Z: n - 1, Coef: 1}}
		for x := 2; x <= n; x++ {
			l = append(l, api.Term2{X: x, Z: n - 1 + 2*x, Coef: 1})
		}
		want := product(l, ringsApart(1))
		if got := ranks(t, samples.Chain(n, true)); !slices.Equal(got, want) {
			t.Error(n, got, "wanted:", want)
		}
		if got := ranks(t, samples.Chain(n, false)); !slices.Equal(got, flipped(want)) {
			t.Error(n, "not Plus", got, "wanted:", flipped(want))
		}
	}
}

// P15.2: rings that are not linked, however curled, up to as many crossings and loops as there may be.
func TestRings(t *testing.T) {
	for by := range 4 {
		for n := 1; n <= most; n++ {
			for loops := range mostLoops + 1 {
				one, apart := moved.Curls(n, by), moved.CurlsApart(n, by)
				one.Loops, apart.Loops = loops, loops
				if got, want := ranks(t, one), ringsApart(1+loops); !slices.Equal(got, want) {
					t.Error(one, got, "wanted:", want)
				}
				if got, want := ranks(t, apart), ringsApart(n+loops); !slices.Equal(got, want) {
					t.Error(apart, got, "wanted:", want)
				}
			}
		}
	}
}

// byTurns: is it of one piece, without loops, and do all its strands go above and below by turns?
func byTurns(d api.Diagram) bool {
	parts, _, e := gauss.Gauss(d)
	if e != api.OK || d.Loops > 0 || piecesOf(d) != 1 {
		return false
	}
	for _, visits := range parts {
		for i, visit := range visits {
			if visit.Over == visits[(i+1)%len(visits)].Over {
				return false
			}
		}
	}
	return true
}

// twisted: links of two bridges whose strands go above and below by turns, of each number of crossings; and their mirror images.
func twisted(t *testing.T) []api.Diagram {
	t.Helper()
	var l []api.Diagram
	for p := 2; p <= 13; p++ {
		for q := 1; q < p; q++ {
			list, e := tangle.Expand(p, q)
			if e != api.OK {
				continue
			}
			d, e := tangle.Link(list)
			if e != api.OK {
				t.Fatal(list, e)
			}
			if taken(d) {
				l = append(l, d, moved.Mirrored(d))
			}
		}
	}
	return l
}

// P15.2: where strands go above and below by turns, Jones's polynomial (chapter 10) and the signature (chapter 9) tell the ranks: each second degree, but for a ring's, less twice the first one is the signature.
func TestByTurns(t *testing.T) {
	crosses, signatures := map[int]int{}, map[int]int{}
	for _, d := range append(twisted(t), smallOnes()...) {
		if !byTurns(d) {
			continue
		}
		jones, _ := bracket.Jones(d)
		signature, e := sign.Signature(d)
		if e != api.OK {
			t.Fatal(d, e)
		}
		var l []api.Term2
		for _, term := range jones {
			z := term.Exp / -2
			l = append(l, api.Term2{X: (z - signature) / 2, Z: z, Coef: max(term.Coef, -term.Coef)})
		}
		if got, want := ranks(t, d), product(pairs(l).InForm(), ringsApart(1)); !slices.Equal(got, want) {
			t.Fatal(d, got, "wanted:", want)
		}
		crosses[len(d.Crosses)]++
		signatures[signature]++
	}
	for n := 2; n <= most; n++ {
		if crosses[n] < 4 {
			t.Error("too few of", n, "crossings:", crosses)
		}
	}
	for s := -4; s <= 4; s++ {
		if signatures[s] < 2 {
			t.Error("too few of signature", s, signatures)
		}
	}
}
