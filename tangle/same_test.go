package tangle_test

import (
	"slices"
	"testing"

	"knotwork/api"
	"knotwork/canon"
	"knotwork/terms"
)

// P12.5: fractions that were compared by hand.
func TestSameByHand(t *testing.T) {
	for _, x := range []struct {
		what       string
		p, q, r, s int
		want       bool
	}{
		{"one and the same", 5, 2, 5, 2, true},
		{"the figure of eight: 2 times 3 is 6", 5, 2, 5, 3, true},
		{"the same, the other way round", 5, 3, 5, 2, true},
		{"1 and 1", 1, 1, 1, 1, true},
		{"two linked rings", 2, 1, 2, 1, true},
		{"the trefoil and its mirror image", 3, 1, 3, 2, false},
		{"its mirror image and the trefoil", 3, 2, 3, 1, false},
		{"five crossings, the second: 2 times 4 is 8", 7, 2, 7, 4, true},
		{"its mirror image", 7, 3, 7, 5, true},
		{"both", 7, 2, 7, 3, false},
		{"5 crossings and the figure of eight", 5, 1, 5, 2, false},
		{"q alone is the same", 5, 2, 7, 2, false},
		{"q s - 1 is a multiple of both p and r", 5, 1, 1, 1, false},
		{"the other way round", 1, 1, 5, 1, false},
		{"q s - 1 is a multiple of p alone", 5, 2, 7, 3, false},
		{"q s + 1 is a multiple of p, q s - 1 is not", 13, 2, 13, 6, false},
		{"p is even: 3 times 3 is 9", 8, 3, 8, 3, true},
		{"p is even, and they are not", 8, 3, 8, 5, false},
		{"the greatest", 1000, 999, 1000, 999, true},
		{"the greatest, and not", 1000, 1, 1000, 999, false},
		{"great ones: 3 times 667 is 2001", 1000, 3, 1000, 667, true},
	} {
		if got := same(t, x.p, x.q, x.r, x.s); got != x.want {
			t.Error(x.what, got)
		}
	}
}

// fractions up to a p: all that may be handed in.
func fractions(most int) [][2]int {
	var l [][2]int
	for p := 1; p <= most; p++ {
		for q := 1; q <= p; q++ {
			if may(p, q) {
				l = append(l, [2]int{p, q})
			}
		}
	}
	return l
}

// P12.5: of all pairs of fractions up to 40, and of all great ones with the same p.
func TestSame(t *testing.T) {
	small := fractions(40)
	for _, a := range small {
		for _, b := range small {
			one := a[1] == b[1]
			for multiple := 0; multiple < a[1]*b[1]; multiple += a[0] {
				one = one || multiple == a[1]*b[1]-1
			}
			if want := a[0] == b[0] && one; same(t, a[0], a[1], b[0], b[1]) != want {
				t.Fatal(a, b, "wanted:", want)
			}
		}
	}
	for _, p := range []int{997, 999, 1000} {
		for q := 1; q < p; q++ {
			if !may(p, q) {
				continue
			}
			count := 0
			for s := 1; s < p; s++ {
				if may(p, s) && same(t, p, q, p, s) {
					count++
				}
			}
			want := 2 // q itself, and one more
			if q*q%p == 1 {
				want = 1 // both are one
			}
			if count != want {
				t.Fatal(p, q, count, "wanted:", want)
			}
		}
	}
}

// bothWays: the Jones polynomials of a link of one or two parts, however these run.
func bothWays(t *testing.T, d api.Diagram) [2][]api.Term {
	t.Helper()
	other, e := canon.Reverse(d, 0)
	if e != api.OK {
		t.Fatal(d, e)
	}
	l := [2][]api.Term{jones(t, d), jones(t, other)}
	if slices.CompareFunc(l[0], l[1], compared) > 0 {
		l[0], l[1] = l[1], l[0]
	}
	return l
}

// compared: terms, by exponents, then by coefficients.
func compared(a, b api.Term) int {
	if a.Exp != b.Exp {
		return a.Exp - b.Exp
	}
	return a.Coef - b.Coef
}

// What comes of it: fractions that are the same have links with the same Jones polynomial, if p is odd; else, if one part is reversed or not. Of so few crossings those that are not the same have others.
func TestSameLinks(t *testing.T) {
	type known struct {
		p, q  int
		jones [2][]api.Term
	}
	var all []known
	for _, l := range aboveOnes(9) {
		p, q := fraction(t, l)
		all = append(all, known{p, q, bothWays(t, link(t, l))})
	}
	found := map[bool]int{}
	for i, a := range all {
		for _, b := range all[:i] {
			if a.p != b.p {
				continue
			}
			alike := slices.Equal(a.jones[0], b.jones[0]) && slices.Equal(a.jones[1], b.jones[1])
			if got := same(t, a.p, a.q, b.p, b.q); got != alike {
				t.Error(a, b, got, "wanted:", alike)
			}
			found[alike]++
		}
	}
	if found[true] < 50 || found[false] < 100 {
		t.Error("too few:", found)
	}
}

// What comes of it: the fraction of p and p - q has the mirror image's link, whose Jones polynomial is flipped; of so few crossings both are the same just if that is the same polynomial.
func TestSameMirrored(t *testing.T) {
	found := map[bool]int{}
	for _, l := range aboveOnes(9) {
		p, q := fraction(t, l)
		if p%2 == 0 || p == 1 {
			continue
		}
		flipped := terms.Work{}
		for _, term := range jones(t, link(t, l)) {
			flipped[-term.Exp] = term.Coef
		}
		if got := jones(t, link(t, expand(t, p, p-q))); !slices.Equal(got, flipped.InForm()) {
			t.Fatal(p, q, got, "wanted:", flipped)
		}
		alike := slices.Equal(flipped.InForm(), jones(t, link(t, l)))
		if got := same(t, p, q, p, p-q); got != alike {
			t.Error(p, q, got, "wanted:", alike)
		}
		found[alike]++
	}
	if found[true] < 5 || found[false] < 100 {
		t.Error("too few:", found)
	}
}
