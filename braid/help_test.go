package braid_test

import (
	"slices"
	"testing"

	"knotwork/api"
	"knotwork/braid"
	"knotwork/samples"
)

// ends of a word that has them.
func ends(t *testing.T, n int, w []int) []int {
	t.Helper()
	l, e := braid.Ends(n, w)
	if e != api.OK {
		t.Fatal(n, w, e)
	}
	return l
}

// act: the texts of a word that may be handed in.
func act(t *testing.T, n int, w []int) [][]int {
	t.Helper()
	l, e := braid.Act(n, w)
	if e != api.OK {
		t.Fatal(n, w, e)
	}
	return l
}

// normal: the form of a word that has one.
func normal(t *testing.T, n int, w []int) (int, [][]int) {
	t.Helper()
	power, l, e := braid.Normal(n, w)
	if e != api.OK {
		t.Fatal(n, w, e)
	}
	return power, l
}

// equal: of words that may be handed in.
func equal(t *testing.T, n int, u, v []int) bool {
	t.Helper()
	ok, e := braid.Equal(n, u, v)
	if e != api.OK {
		t.Fatal(n, u, v, e)
	}
	return ok
}

// alike: are both the same, list by list?
func alike(a, b [][]int) bool { return slices.EqualFunc(a, b, slices.Equal[[]int]) }

// size of a number.
func size(x int) int { return max(x, -x) }

// given: a number of strands, and a word of theirs.
type given struct {
	n    int
	word []int
}

// shortOnes: all words of so many strands, of at most so many letters.
func shortOnes(n, most int) [][]int {
	words := [][]int{nil}
	for from := 0; most > 0; most-- {
		to := len(words)
		for _, w := range words[from:to] {
			for x := 1; x < n; x++ {
				words = append(words, append(w[:len(w):len(w)], x), append(w[:len(w):len(w)], -x))
			}
		}
		from = to
	}
	return words
}

// rightOnes: words that may be handed in: all short ones, drawn ones of as many letters as may be or fewer, and edges.
func rightOnes() []given {
	var l []given
	for i, most := range []int{8, 5, 4, 3, 3} {
		for _, w := range shortOnes(2+i, most) {
			l = append(l, given{2 + i, w})
		}
	}
	die := samples.Die(131)
	for i := range 1500 {
		n := 2 + i%5
		l = append(l, given{n, samples.DrawnWord(&die, n, die.Below(api.MaxWord+1))})
		l = append(l, given{n, sameSigned(&die, n, 1-i/5%2*2)})
	}
	for n := 2; n <= api.MaxStrands; n++ {
		half := samples.HalfTurn(n)
		l = append(l, given{n, []int{}}, given{n, half}, given{n, samples.Undone(half)}, given{n, half[1:]}, given{n, half[:len(half)-1]})
		for x := 1; x < n; x++ {
			l = append(l, given{n, slices.Repeat([]int{x}, api.MaxWord)}, given{n, slices.Repeat([]int{-x}, api.MaxWord)})
		}
	}
	return l
}

// sameSigned: a drawn word of letters above 0 alone, or below 0 alone.
func sameSigned(die *samples.Die, n, sign int) []int {
	w := samples.DrawnWord(die, n, die.Below(api.MaxWord+1))
	for i, x := range w {
		w[i] = sign * size(x)
	}
	return w
}

// The means of these tests: how many words there are, and of what lengths.
func TestMeans(t *testing.T) {
	if l := shortOnes(3, 2); len(l) != 1+4+16 || !slices.Equal(l[20], []int{-2, -2}) {
		t.Error(l)
	}
	lengths := map[int]int{}
	for _, x := range rightOnes() {
		lengths[len(x.word)]++
	}
	for length := range api.MaxWord + 1 {
		if lengths[length] < 50 {
			t.Error("too few of length", length, lengths)
		}
	}
}
