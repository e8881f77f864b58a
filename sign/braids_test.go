package sign_test

import (
	"testing"

	"knotwork/moved"
	"knotwork/samples"
)

// loop on the surface that a braid's rings bound: from one letter to the next one of the same place and back.
type loop struct{ place, from, to int }

// loopsOf a braid's word, which join all its discs.
func loopsOf(word []int) []loop {
	var l []loop
	for from, x := range word {
		for to := from + 1; to < len(word); to++ {
			if place := max(x, -x); word[to] == place || word[to] == -place {
				l = append(l, loop{place, from, to})
				break
			}
		}
	}
	return l
}

// way of a letter: 1 above 0, else -1.
func way(letter int) int {
	if letter < 0 {
		return -1
	}
	return 1
}

// windings: how often loops wind around one another when each is pushed off the surface, both ways together (Seifert's table, and its mirror image added).
func windings(word []int) [][]int {
	loops := loopsOf(word)
	table := make([][]int, len(loops))
	for i, a := range loops {
		table[i] = make([]int, len(loops))
		for j, b := range loops {
			switch {
			case i == j:
				table[i][j] = way(word[a.from]) + way(word[a.to])
			case a.place == b.place && a.to == b.from:
				table[i][j] = -way(word[a.to])
			case a.place == b.place && b.to == a.from:
				table[i][j] = -way(word[a.from])
			case a.place+1 == b.place:
				table[i][j] = between(a, b)
			case b.place+1 == a.place:
				table[i][j] = between(b, a)
			}
		}
	}
	return table
}

// between loops at places next to one another: unless they begin and end by turns they do not meet.
func between(left, right loop) int {
	switch {
	case left.from < right.from && right.from < left.to && left.to < right.to:
		return 1
	case right.from < left.from && left.from < right.to && right.to < left.to:
		return -1
	}
	return 0
}

// P9.3, P9.4: of braids' closures, by another surface: the one that chapter 6's circles bound.
func TestBraids(t *testing.T) {
	die := samples.Die(94)
	asked, knots := 0, [2]int{}
	for i := range 600 {
		strands := 2 + i%4
		var letters []int
		for place := 1; place < strands; place++ {
			letters = append(letters, place, -place, place*(1-2*(i/4%2)))
		}
		word := drawn(&die, 1+die.Below(16), letters...)
		d := samples.Weave(strands, word)
		if !single(d) {
			continue
		}
		asked++
		want, det := inSquares(windings(word))
		if got := signature(t, d); got != want {
			t.Fatal(strands, word, got, "wanted:", want)
		}
		if !moved.Knot(d) {
			continue
		}
		a := 1
		if left := size(t, det) % 8; left == 1 || left == 7 {
			a = 0
		}
		knots[a]++
		if got := arf(t, d); got != a {
			t.Fatal(strands, word, got, "wanted:", a)
		}
	}
	if asked < 300 || knots[0] < 40 || knots[1] < 40 {
		t.Error("too few:", asked, knots)
	}
}
