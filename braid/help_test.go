package braid_test

import (
	"slices"
	"testing"

	"knotwork/api"
	"knotwork/braid"
	"knotwork/samples"
)

// ends of a word that has them.
func ends(t *testing.T, n int, w []int) []int {
	t.Helper()
	l, e := braid.Ends(n, w)
	if e != api.OK {
		t.Fatal(n, w, e)
	}
	return l
}

// act: the texts of a word that may be handed in.
func act(t *testing.T, n int, w []int) [][]int {
	t.Helper()
	l, e := braid.Act(n, w)
	if e != api.OK {
		t.Fatal(n, w, e)
	}
	return l
}

// normal: the form of a word that has one.
func normal(t *testing.T, n int, w []int) (int, [][]int) {
	t.Helper()
	power, l, e := braid.Normal(n, w)
	if e != api.OK {
		t.Fatal(n, w, e)
	}
	return power, l
}

// equal: of words that may be handed in.
func equal(t *testing.T, n int, u, v []int) bool {
	t.Helper()
	ok, e := braid.Equal(n, u, v)
	if e != api.OK {
		t.Fatal(n, u, v, e)
	}
	return ok
}

// alike: are both the same, list by list?
func alike(a, b [][]int) bool { return slices.EqualFunc(a, b, slices.Equal[[]int]) }

// size of a number.
func size(x int) int { return max(x, -x) }

// rightOnes: words that may be handed in, of as many letters as may be or fewer.
func rightOnes() []samples.Braid { return samples.Braids(api.MaxWord) }

// The means of these tests: how many words there are, and of what lengths.
func TestMeans(t *testing.T) {
	if l := samples.ShortWords(3, 2); len(l) != 1+4+16 || !slices.Equal(l[20], []int{-2, -2}) {
		t.Error(l)
	}
	lengths := map[int]int{}
	for _, x := range rightOnes() {
		lengths[len(x.Word)]++
	}
	for length := range api.MaxWord + 1 {
		if lengths[length] < 50 {
			t.Error("too few of length", length, lengths)
		}
	}
}
