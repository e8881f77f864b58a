package braid_test

import (
	"slices"
	"testing"

	"knotwork/api"
	"knotwork/samples"
)

// P13.2: told by hand.
func TestActByHand(t *testing.T) {
	for _, x := range []struct {
		n    int
		word []int
		want [][]int
	}{
		{2, nil, [][]int{{1}, {2}}},
		{6, []int{}, [][]int{{1}, {2}, {3}, {4}, {5}, {6}}},
		{2, []int{1}, [][]int{{1, 2, -1}, {1}}},
		{2, []int{-1}, [][]int{{2}, {-2, 1, 2}}},
		{2, []int{1, -1}, [][]int{{1}, {2}}},
		{2, []int{-1, 1}, [][]int{{1}, {2}}},
		{2, []int{1, 1}, [][]int{{1, 2, 1, -2, -1}, {1, 2, -1}}},
		{2, []int{-1, -1}, [][]int{{-2, 1, 2}, {-2, -1, 2, 1, 2}}},
		{3, []int{2}, [][]int{{1}, {2, 3, -2}, {2}}},
		{3, []int{-2}, [][]int{{1}, {3}, {-3, 2, 3}}},
		{3, []int{1, 2}, [][]int{{1, 2, -1}, {1, 3, -1}, {1}}},
		{3, []int{2, 1}, [][]int{{1, 2, 3, -2, -1}, {1}, {2}}},
		{3, []int{1, 2, 1}, [][]int{{1, 2, 3, -2, -1}, {1, 2, -1}, {1}}},
		{3, []int{1, -2}, [][]int{{1, 2, -1}, {3}, {-3, 1, 3}}},
		{4, []int{1, -3}, [][]int{{1, 2, -1}, {1}, {4}, {-4, 3, 4}}},
	} {
		if got := act(t, x.n, x.word); !alike(got, x.want) {
			t.Error(x.n, x.word, got, "wanted:", x.want)
		}
	}
}

// P13.2: as the chapter's words say it, number by number; of not too many letters.
func TestActByWords(t *testing.T) {
	for _, x := range rightOnes() {
		if len(x.Word) > 9 {
			continue
		}
		if got, want := act(t, x.Strands, x.Word), actByWords(x.Strands, x.Word); !alike(got, want) {
			t.Fatal(x, got, "wanted:", want)
		}
	}
}

// P13.2: of as many letters as may be: no neighbours are reciprocals, and tables put in for letters come to what the word makes of tables.
func TestActByTables(t *testing.T) {
	for _, x := range rightOnes() {
		texts, want := act(t, x.Strands, x.Word), marksOf(x.Word)
		if len(texts) != x.Strands {
			t.Fatal(x, texts)
		}
		for place, text := range texts {
			if !wellFormed(x.Strands, text) || valueOf(text) != want[place] {
				t.Fatal(x, place, text)
			}
		}
	}
}

// wellFormed: letters of n strands, of which no neighbours are reciprocals?
func wellFormed(n int, text []int) bool {
	for i, x := range text {
		if x == 0 || size(x) > n || i > 0 && x == -text[i-1] {
			return false
		}
	}
	return len(text) > 0
}

// What comes of it: each text is that of one strand, with something ahead of it and its reciprocal behind it; and all together are x1 to xn.
func TestActOfStrands(t *testing.T) {
	for _, x := range rightOnes() {
		texts, where := act(t, x.Strands, x.Word), ends(t, x.Strands, x.Word)
		for place, text := range texts {
			half := len(text) / 2
			if len(text)%2 == 0 || text[half] < 1 || where[text[half]-1] != place+1 {
				t.Fatal(x, place, text, where)
			}
			if !slices.Equal(text[half+1:], samples.Undone(text[:half])) {
				t.Fatal(x, place, text)
			}
		}
		if all := valueOf(slices.Concat(texts...)); all != valueOf([]int{1, 2, 3, 4, 5, 6}[:x.Strands]) {
			t.Fatal(x, texts)
		}
	}
}

// P13.2: texts grow fast, if a letter and the reciprocal of the next one take turns.
func TestActOfMany(t *testing.T) {
	word := slices.Repeat([]int{1, -2}, api.MaxWord/2)
	texts := act(t, 3, word)
	if !alike(texts, actByWords(3, word)) || len(texts[2]) < 20_000 {
		t.Error(len(texts[0]), len(texts[1]), len(texts[2]))
	}
}
