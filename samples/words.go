package samples

import (
	"math"
	"slices"

	"knotwork/api"
)

// DrawnWord: so many letters of a braid of so many strands.
func DrawnWord(die *Die, strands, letters int) []int {
	var word []int
	for range letters {
		word = append(word, (1+die.Below(strands-1))*(2*die.Below(2)-1))
	}
	return word
}

// Undone: the reciprocal of a word.
func Undone(word []int) []int {
	var other []int
	for _, x := range slices.Backward(word) {
		other = append(other, -x)
	}
	return other
}

// HalfTurn: a word in which each two strands change places once (Delta).
func HalfTurn(strands int) []int {
	var word []int
	for most := strands - 1; most > 0; most-- {
		for x := range most {
			word = append(word, x+1)
		}
	}
	return word
}

// Rewritten: another word of the same braid, of at most so many letters, by rules of braids at drawn spots.
func Rewritten(die *Die, strands int, word []int, most int) []int {
	word = slices.Clone(word)
	for range 60 {
		at := die.Below(len(word) + 1)
		if x := DrawnWord(die, strands, 1)[0]; die.Below(3) == 0 && len(word)+2 <= most {
			word = slices.Insert(word, at, x, -x)
		} else {
			word = oneRule(word, at)
		}
	}
	return word
}

// oneRule: what a rule makes of the letters from a spot on; the word, if none can be used.
func oneRule(word []int, at int) []int {
	if at+1 >= len(word) {
		return word
	}
	a, b := word[at], word[at+1]
	switch i, j := max(a, -a), max(b, -b); {
	case a == -b:
		return slices.Delete(word, at, at+2)
	case max(i-j, j-i) > 1:
		word[at], word[at+1] = b, a
	case max(i-j, j-i) == 1 && at+2 < len(word):
		threeLetters(word[at:at+3], i, j)
	}
	return word
}

// threeLetters i, j, i become j, i, j. With signs, the first and the last one's are traded; where both are the same, the middle one's must be, too.
func threeLetters(l []int, i, j int) {
	if max(l[2], -l[2]) != i {
		return
	}
	a, b, c := l[0]/i, l[1]/j, l[2]/i
	if a != c || a == b {
		l[0], l[1], l[2] = c*j, b*i, a*j
	}
}

// RefusedWord: a number of strands and a word of which one is refused, and by which error.
type RefusedWord struct {
	What    string
	Strands int
	Word    []int
	Want    api.Errno
}

// RefusedWords: what is wrong with strands and letters ahead of what is wrong with lengths.
func RefusedWords() []RefusedWord {
	most, more := slices.Repeat([]int{1}, api.MaxWord), slices.Repeat([]int{1}, api.MaxWord+1)
	l := []RefusedWord{
		{"a letter 0", 3, []int{0}, api.ErrRange},
		{"a letter 0 behind others", 3, []int{1, -2, 0}, api.ErrRange},
		{"a letter one too great", 3, []int{3}, api.ErrRange},
		{"a letter one too small", 3, []int{-3}, api.ErrRange},
		{"a letter for one strand more", 2, []int{1, 2}, api.ErrRange},
		{"a letter for one strand more, the other way round", 2, []int{-2, -1}, api.ErrRange},
		{"a letter one too great for all strands", api.MaxStrands, []int{api.MaxStrands}, api.ErrRange},
		{"a letter one too small for all strands", api.MaxStrands, []int{-api.MaxStrands}, api.ErrRange},
		{"the greatest number of all", 6, []int{math.MaxInt}, api.ErrRange},
		{"the least number of all", 6, []int{math.MinInt}, api.ErrRange},
		{"the last letter of as many as may be", 2, slices.Concat(most[1:], []int{2}), api.ErrRange},
		{"the last letter of too many", 2, slices.Concat(most, []int{2}), api.ErrRange},
		{"the first letter of too many", 2, slices.Concat([]int{0}, most), api.ErrRange},
		{"the last letter of far too many", 3, append(slices.Repeat([]int{2, -1}, 10_000), -3), api.ErrRange},
		{"one letter too many", 2, more, api.ErrSize},
		{"one letter too many, of which none is left", 3, append(slices.Repeat([]int{1, -1}, api.MaxWord/2), 2), api.ErrSize},
		{"two letters too many", api.MaxStrands, slices.Concat(more, []int{-5}), api.ErrSize},
		{"far too many letters", 4, slices.Repeat([]int{3, -2}, 10_000), api.ErrSize},
	}
	for _, strands := range []int{math.MinInt, -6, -2, -1, 0, 1, api.MaxStrands + 1, 1 << 32, math.MaxInt} {
		for _, word := range [][]int{nil, {1}, {-1}, {0}, {6}, more} {
			l = append(l, RefusedWord{"the number of strands", strands, word, api.ErrRange})
		}
	}
	return l
}
