package tangle_test

import (
	"math/big"
	"testing"

	"knotwork/api"
	"knotwork/tangle"
)

// The chapter's examples.
func TestExamples(t *testing.T) {
	if p, q := fraction(t, []int{3}); p != 3 || q != 1 {
		t.Error(p, q)
	}
	if p, q := fraction(t, []int{2, 1, 1}); p != 5 || q != 3 {
		t.Error(p, q)
	}
}

// P12.2: fractions that were worked out by hand.
func TestFractionByHand(t *testing.T) {
	for _, x := range []struct {
		list []int
		p, q int
	}{
		{[]int{0}, 0, 1},
		{[]int{1}, 1, 1},
		{[]int{-1}, -1, 1},
		{[]int{16}, 16, 1},
		{[]int{-16}, -16, 1},
		{[]int{1, 1, 1}, 3, 2},
		{[]int{-1, -1, -1}, -3, 2},
		{[]int{2, 3, 4}, 30, 7},  // 4 + 1/(3 + 1/2)
		{[]int{4, 3, 2}, 30, 13}, // 2 + 1/(3 + 1/4)
		{[]int{2, 1, -1}, -1, 3}, // -1 + 2/3
		{[]int{2, -1, 1}, -1, 1}, // 1 + 1/(-1/2)
		{[]int{3, -1, 1}, -1, 2}, // 1 + 1/(-2/3)
		{[]int{-2, 3, 0}, 2, 5},  // 1/(5/2)
		{[]int{2, -3, 0}, -2, 5}, // 1/(-5/2)
		{[]int{2, 2, 2, 2, 2}, 70, 29},
		{[]int{1, 0, 1}, 2, 1}, // nothing is below: both lie to the right
		{[]int{0, 1, 0}, 0, 1}, // 1 + 1/0 is 1/0, 1 over that is 0
		{[]int{0, 0, 0}, 0, 1},
		{[]int{0, 5, -3}, -3, 1},
		{[]int{1, 2, 0}, 1, 3},
		{[]int{1, -1, 0}, 1, 0}, // 1 over 0
		{[]int{-1, 1, 0}, 1, 0},
		{[]int{1, -1, 5}, 1, 0}, // 5 and 1/0
		{[]int{-1, 1, -5}, 1, 0},
		{[]int{1, -1, 5, 3, 0}, 1, 3}, // 3 and 1 over 1/0
		{[]int{-1, 1, 5, -3, 0}, -1, 3},
		{[]int{1, -1, 5, 3, 2}, 7, 3},
		{[]int{1, -1, 5, 0, 0}, 1, 0}, // 0 and 1 over 1/0 is 0, 1 over that is 1/0
		{[]int{0, 0, 0, 0, 0, 0, 7}, 7, 1},
		{[]int{2, 1, 1, 1, 1, 1, 1, 1, 1, 1, 1, 1, 1, 1, 1}, 1597, 987},
	} {
		if p, q := fraction(t, x.list); p != x.p || q != x.q {
			t.Error(x.list, p, q, "wanted:", x.p, x.q)
		}
	}
}

// valueByWords: a list's fraction as the chapter tells it; nil: 1/0.
func valueByWords(l []int) *big.Rat {
	value := big.NewRat(int64(l[0]), 1)
	for _, x := range l[1:] {
		switch {
		case value == nil: // 1 over 1/0 is 0
			value = big.NewRat(int64(x), 1)
		case value.Sign() == 0: // 1 over 0 is 1/0, and x and 1/0 together, too
			value = nil
		default:
			value = new(big.Rat).Add(big.NewRat(int64(x), 1), new(big.Rat).Inv(value))
		}
	}
	return value
}

// P12.2: of many lists; no divisor is common, q is above 0, or they are 1 and 0.
func TestFraction(t *testing.T) {
	found := map[string]int{}
	for _, l := range rightOnes() {
		p, q := fraction(t, l)
		value := valueByWords(l)
		switch {
		case value == nil:
			if p != 1 || q != 0 {
				t.Fatal(l, p, q, "wanted: 1 0")
			}
			found["1/0"]++
			continue
		case value.Num().Cmp(big.NewInt(int64(p))) != 0 || value.Denom().Cmp(big.NewInt(int64(q))) != 0:
			t.Fatal(l, p, q, "wanted:", value)
		case p == 0:
			found["0"]++
		case p < 0:
			found["below"]++
		default:
			found["above"]++
		}
		if q <= 0 || common(size(p), q) {
			t.Fatal(l, p, q)
		}
	}
	for _, what := range []string{"1/0", "0", "below", "above"} {
		if found[what] < 100 {
			t.Error("too few:", what, found)
		}
	}
}

// P12.2: with all signs changed p has the other sign, unless it is 1/0.
func TestFractionTurned(t *testing.T) {
	for _, l := range rightOnes() {
		p, q := fraction(t, l)
		r, s := fraction(t, turned(l))
		if q == 0 && (r != 1 || s != 0) || q != 0 && (r != -p || s != q) {
			t.Fatal(l, p, q, r, s)
		}
	}
}

// P12.2: what is refused, and in which order, is refused by Fraction and by Link (P12.3).
func TestListsRefused(t *testing.T) {
	for _, x := range refusedLists() {
		if p, q, e := tangle.Fraction(x.list); p != 0 || q != 0 || e != x.want {
			t.Error("Fraction:", x.what, p, q, e, "wanted:", x.want)
		}
		if d, e := tangle.Link(x.list); len(d.Crosses) != 0 || d.Loops != 0 || e != x.want {
			t.Error("Link:", x.what, d, e, "wanted:", x.want)
		}
	}
}

// P12.2, P12.3: lists at the limits are not refused.
func TestListsTaken(t *testing.T) {
	for _, l := range rightOnes() {
		if _, _, e := tangle.Fraction(l); e != api.OK {
			t.Error("Fraction:", l, e)
		}
		if _, e := tangle.Link(l); e != api.OK {
			t.Error("Link:", l, e)
		}
	}
}
