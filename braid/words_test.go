package braid_test

import (
	"slices"
	"testing"

	"knotwork/samples"
)

// What the chapter's words say, done as plainly as may be; for words of any length.

// pair of strands, told by the places at which they begin, the lesser one first.
type pair struct{ a, b int }

// followed: where each strand ends, from the first place on, and how often each two change places.
func followed(n int, word []int) (ends []int, changes map[pair]int) {
	at := map[int]int{} // which strand is at a place
	for place := 1; place <= n; place++ {
		at[place] = place
	}
	changes = map[pair]int{}
	for _, x := range word {
		i := size(x)
		changes[pair{min(at[i], at[i+1]), max(at[i], at[i+1])}]++
		at[i], at[i+1] = at[i+1], at[i]
	}
	ends = make([]int, n)
	for place, strand := range at {
		ends[strand-1] = place
	}
	return ends, changes
}

// actByWords: texts as P13.2 tells them.
func actByWords(n int, word []int) [][]int {
	texts := make([][]int, n+1)
	for place := range texts {
		texts[place] = []int{place}
	}
	for _, x := range word {
		i := size(x)
		a, b := texts[i], texts[i+1]
		if x > 0 {
			texts[i], texts[i+1] = leftOut(slices.Concat(a, b, samples.Undone(a))), a
		} else {
			texts[i], texts[i+1] = b, leftOut(slices.Concat(samples.Undone(b), a, b))
		}
	}
	return texts[1:]
}

// leftOut: neighbours that are reciprocals, as long as there are any.
func leftOut(text []int) []int {
	for i := 0; i+1 < len(text); i++ {
		if text[i] == -text[i+1] {
			return leftOut(slices.Concat(text[:i], text[i+2:]))
		}
	}
	return text
}

// prime modulo which tables are multiplied.
const prime = 1_000_000_007

// table of two rows, of determinant 1.
type table [4]int

// times another one.
func (m table) times(o table) table {
	return table{
		(m[0]*o[0] + m[1]*o[2]) % prime, (m[0]*o[1] + m[1]*o[3]) % prime,
		(m[2]*o[0] + m[3]*o[2]) % prime, (m[2]*o[1] + m[3]*o[3]) % prime,
	}
}

// undone: its reciprocal.
func (m table) undone() table {
	return table{m[3], (prime - m[1]) % prime, (prime - m[2]) % prime, m[0]}
}

// marks: what a word makes of drawn tables that stand for x1, x2, .. : words that are one braid have the same ones, and it would be a wonder if others had.
type marks [6]table

// firstMarks: for no letters.
func firstMarks() marks {
	die := samples.Die(132)
	var m marks
	for i := range m {
		m[i] = table{1, 0, 0, 1}
		for range 3 {
			m[i] = m[i].times(table{1, die.Below(prime), 0, 1}).times(table{1, 0, die.Below(prime), 1})
		}
	}
	return m
}

// marksOf a word, letter by letter as P13.2 tells it.
func marksOf(word []int) marks {
	m := firstMarks()
	for _, x := range word {
		i := size(x)
		a, b := m[i-1], m[i]
		if x > 0 {
			m[i-1], m[i] = a.times(b).times(a.undone()), a
		} else {
			m[i-1], m[i] = b, b.undone().times(a).times(b)
		}
	}
	return m
}

// valueOf a text at the first marks.
func valueOf(text []int) table {
	first := firstMarks()
	m := table{1, 0, 0, 1}
	for _, x := range text {
		if x > 0 {
			m = m.times(first[x-1])
		} else {
			m = m.times(first[-x-1].undone())
		}
	}
	return m
}

// wordOf a permutation braid that is told by its ends: letters above 0, by each of which two strands change places that have to.
func wordOf(ends []int) []int {
	var word []int
	left := slices.Clone(ends)
	for i := 0; i+1 < len(left); i++ {
		if left[i] > left[i+1] {
			left[i], left[i+1] = left[i+1], left[i]
			word = append(word, i+1)
			i = -1
		}
	}
	return word
}

// wordOfForm: Delta to a power, and permutation braids behind it.
func wordOfForm(n, power int, factors [][]int) []int {
	half := samples.HalfTurn(n)
	if power < 0 {
		half = samples.Undone(half)
	}
	word := slices.Repeat(half, size(power))
	for _, ends := range factors {
		word = append(word, wordOf(ends)...)
	}
	return word
}

// permutations of the numbers from 1 to n.
func permutations(n int) [][]int {
	if n == 0 {
		return [][]int{nil}
	}
	var all [][]int
	for _, l := range permutations(n - 1) {
		for i := range n {
			all = append(all, slices.Insert(slices.Clone(l), i, n))
		}
	}
	return all
}

// The means of these tests: words of permutation braids are so: above 0 alone, their ends are right, no two strands change places twice; marks tell braids from one another by rules of braids.
func TestWordsOfPermutations(t *testing.T) {
	for n := 1; n <= 6; n++ {
		for _, want := range permutations(n) {
			word := wordOf(want)
			got, changes := followed(n, word)
			if !slices.Equal(got, want) || len(changes) != len(word) {
				t.Fatal(want, word, got, changes)
			}
		}
		reversed, changes := followed(n, samples.HalfTurn(n))
		if len(changes) != n*(n-1)/2 || len(samples.HalfTurn(n)) != len(changes) || reversed[0] != n {
			t.Error(n, reversed, changes)
		}
	}
}

// The means of these tests: marks of words that rules of braids lead to one another are the same, marks of a few that are not one braid are not.
func TestMarks(t *testing.T) {
	for _, x := range []struct {
		a, b []int
		same bool
	}{
		{[]int{1, -1}, nil, true},
		{[]int{1, 2, 1}, []int{2, 1, 2}, true},
		{[]int{1, 3}, []int{3, 1}, true},
		{[]int{1, 2, -1}, []int{-2, 1, 2}, true},
		{[]int{1, -2, -1}, []int{-2, -1, 2}, true},
		{[]int{1, -2, 1}, []int{2, -1, 2}, false},
		{[]int{1, 2}, []int{2, 1}, false},
		{[]int{1}, []int{-1}, false},
		{[]int{1, 1}, nil, false},
		{[]int{1, 2, 1, 2}, []int{2, 1, 2, 2}, true},
		{[]int{1, 2, 1, 2}, []int{2, 1, 2, 1}, false},
	} {
		if same := marksOf(x.a) == marksOf(x.b); same != x.same {
			t.Error(x.a, x.b, same)
		}
	}
	if valueOf([]int{1, 2, -1}) != marksOf([]int{1})[0] || valueOf([]int{-2, 1, 2}) != marksOf([]int{-1})[1] {
		t.Error("values of texts are not as marks")
	}
}

// The means of these tests: rewritten words are the same braid, and many of them other words.
func TestRewritten(t *testing.T) {
	die := samples.Die(133)
	others, lengths := 0, map[int]int{}
	for i := range 500 {
		n := 2 + i%5
		word := samples.DrawnWord(&die, n, die.Below(21))
		again := samples.Rewritten(&die, n, word, 20)
		if len(again) > 20 || marksOf(again) != marksOf(word) {
			t.Fatal(n, word, again)
		}
		if !slices.Equal(again, word) {
			others++
		}
		lengths[len(again)]++
	}
	if others < 450 || lengths[20] < 20 || lengths[0] < 1 {
		t.Error("too few:", others, lengths)
	}
}
