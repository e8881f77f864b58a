package braid_test

import (
	"slices"
	"testing"

	"knotwork/api"
	"knotwork/samples"
)

// P13.4: told by hand; both ways round.
func TestEqualByHand(t *testing.T) {
	for _, x := range []struct {
		n    int
		u, v []int
		want bool
	}{
		{2, nil, []int{}, true},
		{2, []int{1, -1}, nil, true},
		{2, []int{-1, 1}, nil, true},
		{2, []int{1}, []int{-1}, false},
		{2, []int{1, 1}, nil, false},
		{2, []int{1}, []int{1, 1, 1}, false}, // the same ends
		{3, []int{1, 2, 1}, []int{2, 1, 2}, true},
		{3, []int{-1, -2, -1}, []int{-2, -1, -2}, true},
		{3, []int{1, 2, -1}, []int{-2, 1, 2}, true},
		{3, []int{1, -2, -1}, []int{-2, -1, 2}, true},
		{3, []int{1, -2, 1}, []int{2, -1, 2}, false},
		{3, []int{1, 2, 1}, []int{-2, -1, -2}, false},
		{3, []int{1, 2}, []int{2, 1}, false},
		{3, []int{1, 1, 2, 2}, []int{2, 2, 1, 1}, false},
		{4, []int{1, 3}, []int{3, 1}, true},
		{4, []int{1, -3}, []int{-3, 1}, true},
		{4, []int{1, 2}, []int{2, 1}, false},
		{4, []int{2, 3, 2}, []int{3, 2, 3}, true},
		{4, []int{1, 3, 1}, []int{3, 1, 3}, false},
		{6, []int{1, 5}, []int{5, 1}, true},
		{6, []int{5, 4, 5}, []int{4, 5, 4}, true},
		{6, []int{-1, 3, -5}, []int{-5, 3, -1}, true},
		{6, []int{1}, []int{2}, false},
	} {
		if equal(t, x.n, x.u, x.v) != x.want || equal(t, x.n, x.v, x.u) != x.want {
			t.Error(x.n, x.u, x.v, "wanted:", x.want)
		}
	}
}

// P13.4: rules of braids lead from a word to words that are equal; one letter more, less or turned round is another braid.
func TestEqualOfRewritten(t *testing.T) {
	die := samples.Die(137)
	for i := range 2000 {
		n := 2 + i%5
		word := samples.DrawnWord(&die, n, 1+die.Below(api.MaxWord))
		again := samples.Rewritten(&die, n, word, api.MaxWord)
		if !equal(t, n, word, again) || !equal(t, n, again, word) || !equal(t, n, word, slices.Clone(word)) {
			t.Fatal(n, word, again)
		}
		k := die.Below(len(word))
		turned := slices.Clone(word)
		turned[k] = -turned[k]
		for _, other := range [][]int{turned, slices.Concat(word[:k], word[k+1:])} {
			if equal(t, n, other, again) || equal(t, n, again, other) {
				t.Fatal(n, other, again)
			}
		}
	}
}

// P13.4: of all short words, just those are equal whose texts are; and whose forms are.
func TestEqualOfShortOnes(t *testing.T) {
	for i, most := range []int{6, 4, 3, 2, 2} {
		n := 2 + i
		words := samples.ShortWords(n, most)
		found := map[bool]int{}
		for _, u := range words {
			texts := act(t, n, u)
			power, factors := normal(t, n, u)
			for _, v := range words {
				want := alike(texts, actByWords(n, v))
				other, forms := normal(t, n, v)
				if got := equal(t, n, u, v); got != want || (power == other && alike(factors, forms)) != want {
					t.Fatal(n, u, v, got, "wanted:", want)
				}
				found[want]++
			}
		}
		if found[true] <= len(words) || found[false] < 100 {
			t.Error("too few:", n, found)
		}
	}
}

// P13.4: words with the same letters in another order, of as many as may be: just those are equal whose texts are.
func TestEqualOfShuffledOnes(t *testing.T) {
	die := samples.Die(138)
	found := map[bool]int{}
	for i := range 3000 {
		n := 3 + i%4
		u := samples.DrawnWord(&die, n, 2+die.Below(api.MaxWord-1))
		v := slices.Clone(u)
		for range 1 + die.Below(2) {
			k := die.Below(len(v) - 1)
			v[k], v[k+1] = v[k+1], v[k]
		}
		want := alike(act(t, n, u), act(t, n, v))
		if got := equal(t, n, u, v); got != want || want != (marksOf(u) == marksOf(v)) {
			t.Fatal(n, u, v, got, "wanted:", want)
		}
		found[want]++
	}
	if found[true] < 500 || found[false] < 500 {
		t.Error("too few:", found)
	}
}

// P13.4: a word with its reciprocal is none; so words are equal just if one, with the other's reciprocal behind it, is none.
func TestEqualToNone(t *testing.T) {
	die := samples.Die(139)
	for i := range 1000 {
		n := 2 + i%5
		u := samples.DrawnWord(&die, n, die.Below(api.MaxWord/2+1))
		v := samples.DrawnWord(&die, n, die.Below(api.MaxWord/2+1))
		if !equal(t, n, slices.Concat(u, samples.Undone(u)), nil) || !equal(t, n, nil, slices.Concat(samples.Undone(u), u)) {
			t.Fatal(n, u)
		}
		if equal(t, n, u, v) != equal(t, n, slices.Concat(u, samples.Undone(v)), nil) {
			t.Fatal(n, u, v)
		}
	}
}

// What comes of it: Delta past a letter i makes it n - i; so Delta twice may be moved past any letter.
func TestEqualOfHalfTurns(t *testing.T) {
	for n := 2; n <= api.MaxStrands; n++ {
		half := samples.HalfTurn(n)
		for x := 1; x < n; x++ {
			for _, sign := range []int{1, -1} {
				ahead, behind := []int{sign * x}, []int{sign * (n - x)}
				if !equal(t, n, slices.Concat(ahead, half), slices.Concat(half, behind)) {
					t.Error(n, ahead, behind)
				}
				if got := equal(t, n, slices.Concat(ahead, half), slices.Concat(half, ahead)); got != (2*x == n) {
					t.Error(n, ahead, got)
				}
				if 2*len(half) < api.MaxWord && !equal(t, n, slices.Concat(ahead, half, half), slices.Concat(half, half, ahead)) {
					t.Error(n, ahead)
				}
			}
		}
	}
}
