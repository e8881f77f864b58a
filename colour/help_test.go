package colour_test

import (
	"testing"

	"knotwork/api"
	"knotwork/colour"
	"knotwork/samples"
)

// overs of a diagram that has them.
func overs(t *testing.T, d api.Diagram) []int {
	t.Helper()
	l, e := colour.Overs(d)
	if e != api.OK || len(l) != 2*len(d.Crosses) {
		t.Fatal(d, l, e)
	}
	return l
}

// fox: of how many colours modulo p the colourings of a diagram are sums.
func fox(t *testing.T, d api.Diagram, p int) int {
	t.Helper()
	n, e := colour.Fox(d, p)
	if e != api.OK {
		t.Fatal(d, p, e)
	}
	return n
}

// count of a diagram's colourings.
func count(t *testing.T, d api.Diagram, q [][]int) int {
	t.Helper()
	n, e := colour.Count(d, q)
	if e != api.OK {
		t.Fatal(d, q, e)
	}
	return n
}

// power: a to the power of n.
func power(a, n int) int {
	p := 1
	for range n {
		p *= a
	}
	return p
}

// primes from 2 to 97.
func primes() []int {
	return []int{2, 3, 5, 7, 11, 13, 17, 19, 23, 29, 31, 37, 41, 43, 47, 53, 59, 61, 67, 71, 73, 79, 83, 89, 97}
}

// tableOf n colours: what two of them make.
func tableOf(n int, make func(a, b int) int) [][]int {
	var q [][]int
	for a := range n {
		var row []int
		for b := range n {
			row = append(row, make(a, b))
		}
		q = append(q, row)
	}
	return q
}

// trivial: a quandle of n colours none of which changes another one.
func trivial(n int) [][]int { return tableOf(n, func(a, b int) int { return a }) }

// dihedral: a ▷ b = 2b - a modulo n.
func dihedral(n int) [][]int { return tableOf(n, func(a, b int) int { return (2*b - a + n) % n }) }

// tetrahedral: a quandle of four colours; each turns the other three around.
func tetrahedral() [][]int {
	return [][]int{{0, 3, 1, 2}, {2, 1, 3, 0}, {3, 0, 2, 1}, {1, 2, 0, 3}}
}

// turning: a quandle of four colours; the last one turns the first three around, which change nothing.
func turning() [][]int { return [][]int{{0, 0, 0, 1}, {1, 1, 1, 2}, {2, 2, 2, 0}, {3, 3, 3, 3}} }

// swapping: a quandle of three colours; the last one swaps both others, which change nothing.
func swapping() [][]int { return [][]int{{0, 0, 1}, {1, 1, 0}, {2, 2, 2}} }

// manyCurls: so many rings with a curl each.
func manyCurls(n int) api.Diagram {
	d := samples.OfText("X-[1,2,2,1]")
	for range n - 1 {
		d = samples.Beside(d, samples.OfText("X+[1,1,2,2]"))
	}
	return d
}
