package tangle_test

import (
	"math"
	"slices"
	"testing"

	"knotwork/api"
	"knotwork/tangle"
)

// refusedList: a list that is refused, and by which error.
type refusedList struct {
	what string
	list []int
	want api.Errno
}

// refusedLists: numbers out of range ahead of what else is wrong.
func refusedLists() []refusedList {
	return []refusedList{
		{"a number one too great", []int{17}, api.ErrRange},
		{"a number one too small", []int{-17}, api.ErrRange},
		{"the greatest number of all", []int{math.MaxInt}, api.ErrRange},
		{"the least number of all", []int{math.MinInt}, api.ErrRange},
		{"a number below the others is too great", []int{1, 17, 1}, api.ErrRange},
		{"the last one is too small", []int{1, 1, -17}, api.ErrRange},
		{"a number too great in a list of even length", []int{1, 17}, api.ErrRange},
		{"a number too small, ahead, in a list of even length", []int{-17, 1}, api.ErrRange},
		{"a number too great behind too many crossings", []int{16, 16, 17}, api.ErrRange},
		{"sizes that would come to little", []int{math.MaxInt, math.MaxInt, 2}, api.ErrRange},
		{"the least of all, twice", []int{math.MinInt, math.MinInt, 0}, api.ErrRange},
		{"a number too great behind many of 0", append(make([]int, 10_000), 17), api.ErrRange},
		{"no list", nil, api.ErrSize},
		{"an empty list", []int{}, api.ErrSize},
		{"two of 0", []int{0, 0}, api.ErrSize},
		{"two numbers", []int{2, 1}, api.ErrSize},
		{"four numbers", []int{1, 1, 1, 1}, api.ErrSize},
		{"two numbers of too many crossings", []int{16, 16}, api.ErrSize},
		{"many of 0, an even number", make([]int, 10_000), api.ErrSize},
		{"one crossing too many at the end", []int{16, 0, 1}, api.ErrSize},
		{"one crossing too many in the middle", []int{16, -1, 0}, api.ErrSize},
		{"one crossing too many ahead", []int{1, 0, -16}, api.ErrSize},
		{"one crossing too many, all below 0", []int{-8, -8, -1}, api.ErrSize},
		{"sizes together, not numbers", []int{8, -8, 1}, api.ErrSize},
		{"numbers that come to little", []int{16, -16, 16}, api.ErrSize},
		{"numbers that come to 0", []int{16, -16, 0}, api.ErrSize},
		{"17 of 1", slices.Repeat([]int{1}, 17), api.ErrSize},
		{"very many", slices.Repeat([]int{16}, 9_999), api.ErrSize},
	}
}

// edges: numbers that no fraction takes, or only some do.
func edges() []int {
	return []int{math.MinInt, math.MinInt + 1, -1 << 32, -1001, -1000, -2, -1, 0, 1, 2, 3, 4, 999, 1000, 1001, 1002, 1 << 32, math.MaxInt - 1, math.MaxInt}
}

// may: is it a fraction that the chapter takes?
func may(p, q int) bool {
	return p == 1 && q == 1 || p >= 1 && p <= 1000 && 0 < q && q < p && !common(p, q)
}

// P12.4, P12.5: fractions that may not be handed in, at all edges; Same refuses them on either side, be both the same or not.
func TestFractionsRefused(t *testing.T) {
	for _, p := range edges() {
		for _, q := range edges() {
			want := api.ErrRange
			if may(p, q) {
				want = api.OK
			}
			if l, e := tangle.Expand(p, q); e != want || e != api.OK && len(l) != 0 {
				t.Error("Expand:", p, q, l, e, "wanted:", want)
			}
			for _, other := range [][2]int{{1, 1}, {5, 2}, {1000, 999}} {
				if ok, e := tangle.Same(p, q, other[0], other[1]); e != want || e != api.OK && ok {
					t.Error("Same:", p, q, other, ok, e, "wanted:", want)
				}
				if ok, e := tangle.Same(other[0], other[1], p, q); e != want || e != api.OK && ok {
					t.Error("Same:", other, p, q, ok, e, "wanted:", want)
				}
			}
			if ok, e := tangle.Same(p, q, p, q); e != want || ok != (want == api.OK) {
				t.Error("Same:", p, q, "twice", ok, e, "wanted:", want)
			}
		}
	}
}

// P12.4, P12.5: what was seen to be refused, told by hand.
func TestFractionsRefusedByHand(t *testing.T) {
	for _, x := range []struct {
		what string
		p, q int
		want api.Errno
	}{
		{"the least one", 1, 1, api.OK},
		{"behind it", 2, 1, api.OK},
		{"the greatest p", 1000, 1, api.OK},
		{"the greatest p and q", 1000, 999, api.OK},
		{"p one too great", 1001, 1, api.ErrRange},
		{"p 0", 0, 1, api.ErrRange},
		{"1/0", 1, 0, api.ErrRange},
		{"p below 0", -5, 3, api.ErrRange},
		{"q below 0", 5, -3, api.ErrRange},
		{"both below 0", -5, -3, api.ErrRange},
		{"q 0", 5, 0, api.ErrRange},
		{"q as p", 5, 5, api.ErrRange},
		{"q above p", 3, 5, api.ErrRange},
		{"q above p, which is 1", 1, 2, api.ErrRange},
		{"a common divisor", 6, 4, api.ErrRange},
		{"a common divisor that q is", 9, 3, api.ErrRange},
		{"a great common divisor", 998, 499, api.ErrRange},
	} {
		if _, e := tangle.Expand(x.p, x.q); e != x.want {
			t.Error("Expand:", x.what, e, "wanted:", x.want)
		}
		if _, e := tangle.Same(x.p, x.q, 3, 1); e != x.want {
			t.Error("Same, ahead:", x.what, e, "wanted:", x.want)
		}
		if _, e := tangle.Same(3, 1, x.p, x.q); e != x.want {
			t.Error("Same, behind:", x.what, e, "wanted:", x.want)
		}
	}
}
