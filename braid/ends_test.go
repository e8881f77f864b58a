package braid_test

import (
	"slices"
	"testing"

	"knotwork/samples"
)

// P13.1: told by hand.
func TestEndsByHand(t *testing.T) {
	for _, x := range []struct {
		n    int
		word []int
		want []int
	}{
		{2, nil, []int{1, 2}},
		{6, []int{}, []int{1, 2, 3, 4, 5, 6}},
		{2, []int{1}, []int{2, 1}},
		{2, []int{-1}, []int{2, 1}},
		{2, []int{1, 1}, []int{1, 2}},
		{3, []int{1}, []int{2, 1, 3}},
		{3, []int{-2}, []int{1, 3, 2}},
		{3, []int{1, 2}, []int{3, 1, 2}}, // the first strand goes all the way
		{3, []int{2, 1}, []int{2, 3, 1}}, // the last one does
		{3, []int{1, -2}, []int{3, 1, 2}},
		{3, []int{1, 2, 1}, []int{3, 2, 1}},
		{4, []int{1, 3}, []int{2, 1, 4, 3}},
		{4, []int{2, 1, -3}, []int{2, 4, 1, 3}},
		{6, []int{1, 2, 3, 4, 5}, []int{6, 1, 2, 3, 4, 5}},
		{6, []int{-5, 4, -3, 2, -1}, []int{2, 3, 4, 5, 6, 1}},
	} {
		if got := ends(t, x.n, x.word); !slices.Equal(got, x.want) {
			t.Error(x.n, x.word, got, "wanted:", x.want)
		}
	}
}

// P13.1: as each strand is followed.
func TestEndsFollowed(t *testing.T) {
	for _, x := range rightOnes() {
		want, _ := followed(x.Strands, x.Word)
		if got := ends(t, x.Strands, x.Word); !slices.Equal(got, want) {
			t.Fatal(x, got, "wanted:", want)
		}
	}
}

// What comes of it: the strands of two words, one behind the other, go on where they were; a word and its reciprocal bring them back.
func TestEndsBehindOneAnother(t *testing.T) {
	die := samples.Die(134)
	for i := range 1000 {
		n := 2 + i%5
		u, v := samples.DrawnWord(&die, n, die.Below(11)), samples.DrawnWord(&die, n, die.Below(11))
		both, first, second := ends(t, n, slices.Concat(u, v)), ends(t, n, u), ends(t, n, v)
		back := ends(t, n, slices.Concat(u, samples.Undone(u)))
		for place := 1; place <= n; place++ {
			if both[place-1] != second[first[place-1]-1] || back[place-1] != place {
				t.Fatal(n, u, v, both, back)
			}
		}
	}
}
