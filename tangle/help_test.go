package tangle_test

import (
	"math/big"
	"testing"

	"knotwork/api"
	"knotwork/bracket"
	"knotwork/samples"
	"knotwork/tangle"
)

// fraction of a list that has one.
func fraction(t *testing.T, l []int) (p, q int) {
	t.Helper()
	p, q, e := tangle.Fraction(l)
	if e != api.OK {
		t.Fatal(l, e)
	}
	return p, q
}

// expand a fraction that may be handed in.
func expand(t *testing.T, p, q int) []int {
	t.Helper()
	l, e := tangle.Expand(p, q)
	if e != api.OK {
		t.Fatal(p, q, e)
	}
	return l
}

// link of a list that has one.
func link(t *testing.T, l []int) api.Diagram {
	t.Helper()
	d, e := tangle.Link(l)
	if e != api.OK {
		t.Fatal(l, e)
	}
	return d
}

// same: of fractions that may be handed in.
func same(t *testing.T, p, q, r, s int) bool {
	t.Helper()
	ok, e := tangle.Same(p, q, r, s)
	if e != api.OK {
		t.Fatal(p, q, r, s, e)
	}
	return ok
}

// jones: the polynomial of a diagram that has one.
func jones(t *testing.T, d api.Diagram) []api.Term {
	t.Helper()
	a, e := bracket.Jones(d)
	if e != api.OK {
		t.Fatal(d, e)
	}
	return a
}

// size of a number.
func size(x int) int { return max(x, -x) }

// sizes of a list's numbers, together.
func sizes(l []int) int {
	sum := 0
	for _, x := range l {
		sum += size(x)
	}
	return sum
}

// common: is there a number above 1 that divides both?
func common(p, q int) bool {
	return new(big.Int).GCD(nil, nil, big.NewInt(int64(p)), big.NewInt(int64(q))).Cmp(big.NewInt(1)) > 0
}

// turned: the list with the signs of all its numbers changed.
func turned(l []int) []int {
	var other []int
	for _, x := range l {
		other = append(other, -x)
	}
	return other
}

// all lists of that length, of numbers of at most that size.
func all(length, most int) [][]int {
	lists := [][]int{nil}
	for range length {
		var longer [][]int
		for _, l := range lists {
			for x := -most; x <= most; x++ {
				longer = append(longer, append(l[:len(l):len(l)], x))
			}
		}
		lists = longer
	}
	return lists
}

// rightOnes: lists that have fractions: all short ones of small numbers, drawn ones, and edges.
func rightOnes() [][]int {
	lists := append(all(1, api.MaxCross), all(3, 4)...)
	lists = append(lists, all(5, 2)...)
	die := samples.Die(121)
	for range 2000 {
		lists = append(lists, drawn(&die))
	}
	return append(lists,
		[]int{2, 1, 1, 1, 1, 1, 1, 1, 1, 1, 1, 1, 1, 1, 1},
		[]int{-2, -1, -1, -1, -1, -1, -1, -1, -1, -1, -1, -1, -1, -1, -1},
		[]int{16, 0, 0}, []int{0, 16, 0}, []int{0, -16, 0}, []int{0, 0, -16}, []int{8, -8, 0}, []int{-8, 0, 8}, []int{0, 8, 8},
		append(make([]int, 1000), 7), append(make([]int, 1001), -7, 0), make([]int, 99_999),
	)
}

// drawn: a list of up to 15 numbers, of as many crossings as may be or fewer.
func drawn(die *samples.Die) []int {
	l := make([]int, 1+2*die.Below(8))
	for range die.Below(api.MaxCross + 1) {
		i := die.Below(len(l))
		if l[i] < 0 || l[i] == 0 && die.Below(2) == 0 {
			l[i]--
		} else {
			l[i]++
		}
	}
	return l
}

// aboveOnes: all lists of odd length, of numbers above 0, of at most so many crossings.
func aboveOnes(most int) [][]int {
	var odd [][]int
	lists := [][]int{nil}
	for length := 1; len(lists) > 0; length++ {
		var longer [][]int
		for _, l := range lists {
			for x := 1; sizes(l)+x <= most; x++ {
				longer = append(longer, append(l[:len(l):len(l)], x))
			}
		}
		if lists = longer; length%2 == 1 {
			odd = append(odd, lists...)
		}
	}
	return odd
}

// The means of these tests: how many lists there are, and how they are made.
func TestMeans(t *testing.T) {
	if l := all(3, 4); len(l) != 729 || sizes(l[0]) != 12 {
		t.Error(len(l))
	}
	// Of n crossings, n above 1, there are 2 to the power of n - 2.
	if l := aboveOnes(api.MaxCross); len(l) != 1<<15 {
		t.Error(len(l))
	}
	most := 0
	for _, l := range rightOnes() {
		if sizes(l) > api.MaxCross || len(l)%2 == 0 {
			t.Error(l)
		}
		if sizes(l) == api.MaxCross {
			most++
		}
	}
	if most < 50 {
		t.Error("too few of as many crossings as may be:", most)
	}
}
