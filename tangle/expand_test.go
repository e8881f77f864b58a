package tangle_test

import (
	"slices"
	"testing"

	"knotwork/api"
	"knotwork/tangle"
)

// P12.4: lists that were worked out by hand.
func TestExpandByHand(t *testing.T) {
	for _, x := range []struct {
		p, q int
		want []int
	}{
		{1, 1, []int{1}},
		{2, 1, []int{2}},
		{3, 1, []int{3}},
		{3, 2, []int{1, 1, 1}},
		{5, 3, []int{2, 1, 1}},
		{5, 2, []int{1, 1, 2}},
		{5, 4, []int{1, 3, 1}},
		{30, 7, []int{2, 3, 4}},
		{30, 13, []int{4, 3, 2}},
		{7, 5, []int{2, 2, 1}},
		{7, 3, []int{1, 2, 2}}, // 2 + 1/3, of an even length: so 3 is 2 + 1/1
		{70, 29, []int{2, 2, 2, 2, 2}},
		{1000, 1, []int{1000}}, // more crossings than a list may have; the fraction is told of all the same
		{1000, 999, []int{1, 998, 1}},
		{987, 610, slices.Repeat([]int{1}, 15)},
		{610, 377, []int{2, 1, 1, 1, 1, 1, 1, 1, 1, 1, 1, 1, 1}},
	} {
		if got := expand(t, x.p, x.q); !slices.Equal(got, x.want) {
			t.Error(x.p, x.q, got, "wanted:", x.want)
		}
	}
}

// P12.4: of all fractions: odd length, all numbers above 0, and the fraction is that of the list; what is no such fraction is refused.
func TestExpand(t *testing.T) {
	count := 0
	for p := -2; p <= 1002; p++ {
		for q := -2; q <= 1002; q++ {
			l, e := tangle.Expand(p, q)
			if e != api.OK {
				if e != api.ErrRange || len(l) != 0 || may(p, q) {
					t.Fatal(p, q, l, e)
				}
				continue
			}
			count++
			if len(l)%2 == 0 || slices.Min(l) < 1 {
				t.Fatal(p, q, l)
			}
			if r, s := worth(l); r != p || s != q {
				t.Fatal(p, q, l, "is worth", r, s)
			}
		}
	}
	// Of each p as many q as Euler's function tells: up to 1000 they come to 304192.
	if count != 304_192 {
		t.Error(count, "fractions")
	}
}

// worth of a list of numbers above 0, from its first number on.
func worth(l []int) (p, q int) {
	p, q = l[0], 1
	for _, x := range l[1:] {
		p, q = x*p+q, p
	}
	return p, q
}

// P12.4: there is just one such list: of each list of numbers above 0 the fraction gives it back, if p is not too great.
func TestExpandBack(t *testing.T) {
	back, beyond := 0, 0
	for _, l := range aboveOnes(api.MaxCross) {
		p, q := fraction(t, l)
		got, e := tangle.Expand(p, q)
		if p > 1000 {
			if e != api.ErrRange || len(got) != 0 {
				t.Fatal(l, p, q, got, e)
			}
			beyond++
			continue
		}
		if e != api.OK || !slices.Equal(got, l) {
			t.Fatal(l, p, q, got, e)
		}
		back++
	}
	if back < 20_000 || beyond < 20 {
		t.Error("too few:", back, beyond)
	}
}
