package braid

import "slices"

// form: Delta to a power, and permutation braids behind it, told by their ends.
type form struct {
	strands, power int
	factors        [][]int
}

// formOf a word: the normal one.
func formOf(n int, w []int) form {
	f := form{strands: n}
	for _, letter := range w {
		f.add(letter)
	}
	f.trim()
	return f
}

// add a letter behind all others.
func (f *form) add(letter int) {
	begins := places(f.strands)
	if letter < 0 { // it is Delta to the power of -1, and then Delta without this letter at its end
		f.power--
		for k, ends := range f.factors {
			f.factors[k] = passed(ends)
		}
		begins = delta(f.strands)
	}
	trade(begins, size(letter))
	f.factors = append(f.factors, turnedRound(begins))
	// The others were settled before: they stay so, if letters go from one to the next one ahead, from the last one on.
	for k := len(f.factors) - 1; k > 0; k-- {
		f.factors[k-1], f.factors[k] = settled(f.factors[k-1], f.factors[k])
	}
}

// settled neighbours: letters at the beginning of the second one go over to the end of the first one, as long as that stays a permutation braid.
func settled(first, second []int) ([]int, []int) {
	begins, rest := turnedRound(first), slices.Clone(second)
	for i := loose(begins, rest); i > 0; i = loose(begins, rest) {
		trade(begins, i)
		trade(rest, i)
	}
	return turnedRound(begins), rest
}

// loose: a letter with which the second one can begin, and behind which the first one stays a permutation braid; or 0.
func loose(begins, second []int) int {
	for i := 1; i < len(second); i++ {
		if traded(second, i) && !traded(begins, i) {
			return i
		}
	}
	return 0
}

// trim: what is Delta goes over to the power, what has no letters is left out. Of settled ones the former stand ahead of all others, the latter behind them.
func (f *form) trim() {
	most, none := delta(f.strands), places(f.strands)
	var left [][]int
	for _, ends := range f.factors {
		switch {
		case slices.Equal(ends, most):
			f.power++
		case !slices.Equal(ends, none):
			left = append(left, ends)
		}
	}
	f.factors = left
}
