package samples

import (
	"slices"

	"knotwork/api"
)

// Braid: a number of strands, and a word of theirs.
type Braid struct {
	Strands int
	Word    []int
}

// ShortWords: all words of so many strands, of at most so many letters.
func ShortWords(strands, most int) [][]int {
	words := [][]int{nil}
	for from := 0; most > 0; most-- {
		to := len(words)
		for _, w := range words[from:to] {
			for x := 1; x < strands; x++ {
				words = append(words, append(w[:len(w):len(w)], x), append(w[:len(w):len(w)], -x))
			}
		}
		from = to
	}
	return words
}

// Braids that may be handed in: all of a few letters, drawn ones of at most so many letters (15 at least), and edges.
func Braids(most int) []Braid {
	var l []Braid
	for i, few := range []int{8, 5, 4, 3, 3} {
		for _, w := range ShortWords(2+i, few) {
			l = append(l, Braid{2 + i, w})
		}
	}
	die := Die(131)
	for i := range 1500 {
		n := 2 + i%5
		l = append(l, Braid{n, DrawnWord(&die, n, die.Below(most+1))})
		l = append(l, Braid{n, sameSigned(&die, n, die.Below(most+1), 1-i/5%2*2)})
	}
	for n := 2; n <= api.MaxStrands; n++ {
		half := HalfTurn(n)
		l = append(l, Braid{n, []int{}}, Braid{n, half}, Braid{n, Undone(half)}, Braid{n, half[1:]}, Braid{n, half[:len(half)-1]})
		for x := 1; x < n; x++ {
			l = append(l, Braid{n, slices.Repeat([]int{x}, most)}, Braid{n, slices.Repeat([]int{-x}, most)})
		}
	}
	return l
}

// sameSigned: a drawn word of letters above 0 alone, or below 0 alone.
func sameSigned(die *Die, strands, letters, sign int) []int {
	w := DrawnWord(die, strands, letters)
	for i, x := range w {
		w[i] = sign * max(x, -x)
	}
	return w
}
