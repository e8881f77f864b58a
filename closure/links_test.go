package closure_test

import (
	"slices"
	"testing"

	"knotwork/alex"
	"knotwork/api"
	"knotwork/bracket"
	"knotwork/homfly"
	"knotwork/poly"
	"knotwork/samples"
	"knotwork/terms"
)

// jones: the polynomial of a braid's link, of at most 12 letters.
func jones(t *testing.T, n int, w []int) []api.Term {
	t.Helper()
	a, e := bracket.Jones(closed(t, n, w))
	if e != api.OK {
		t.Fatal(n, w, e)
	}
	return a
}

// oneLink: have both braids' links Jones's polynomial in common, and Homfly's, if they have few enough crossings?
func oneLink(t *testing.T, n int, u []int, m int, v []int) bool {
	t.Helper()
	if !slices.Equal(jones(t, n, u), jones(t, m, v)) {
		return false
	}
	if max(len(u), len(v)) > 8 {
		return true
	}
	a, e := homfly.Homfly(closed(t, n, u))
	b, f := homfly.Homfly(closed(t, m, v))
	if e != api.OK || f != api.OK {
		t.Fatal(n, u, m, v, e, f)
	}
	return slices.Equal(a, b)
}

// What comes of it: words that are one braid are one link, closed; a letter turned round makes another one, mostly.
func TestLinksOfRewritten(t *testing.T) {
	die := samples.Die(141)
	others := 0
	for i := range 400 {
		n := 2 + i%5
		word := samples.DrawnWord(&die, n, 1+die.Below(8+i%5))
		again := samples.Rewritten(&die, n, word, 8+i%5)
		if !oneLink(t, n, word, n, again) {
			t.Fatal(n, word, again)
		}
		turned := slices.Clone(word)
		turned[0] = -turned[0]
		if !oneLink(t, n, turned, n, again) {
			others++
		}
	}
	if others < 100 {
		t.Error("too few are other links:", others)
	}
}

// What comes of it: a word and its reciprocal, put around, leave the link as it is.
func TestLinksPutAround(t *testing.T) {
	die := samples.Die(142)
	for i := range 400 {
		n := 2 + i%5
		around := samples.DrawnWord(&die, n, 1+i%3)
		word := samples.DrawnWord(&die, n, die.Below(7))
		if more := slices.Concat(around, word, samples.Undone(around)); !oneLink(t, n, word, n, more) {
			t.Fatal(n, word, more)
		}
	}
}

// What comes of it: one strand more with the letter n or -n behind all others leaves the link as it is; without that letter, or with both, it is another one.
func TestLinksOfOneStrandMore(t *testing.T) {
	die := samples.Die(143)
	for i := range 400 {
		n := 2 + i%4
		word := samples.DrawnWord(&die, n, die.Below(11))
		for _, x := range []int{n, -n} {
			if more := slices.Concat(word, []int{x}); !oneLink(t, n, word, n+1, more) {
				t.Fatal(n, word, more)
			}
		}
		for _, tail := range [][]int{nil, {n, -n}} {
			if more := slices.Concat(word, tail); oneLink(t, n, word, n+1, more) {
				t.Fatal(n, word, more)
			}
		}
	}
}

// minorOf: 1 less the table, without the last row and the last place of each row.
func minorOf(m table) table {
	n := len(m) - 1
	minor := make(table, n)
	for row := range minor {
		for place := range n {
			p := terms.Work{}
			for _, term := range m[row][place] {
				p[term.Exp] -= term.Coef
			}
			if row == place {
				p[0]++
			}
			minor[row] = append(minor[row], p.InForm())
		}
	}
	return minor
}

// What comes of it: that minor's determinant is Alexander's polynomial of what is closed, but for Unit.
func TestAlexanderOfTables(t *testing.T) {
	die := samples.Die(144)
	lengths := map[int]int{}
	all := slices.DeleteFunc(toTable(), func(x samples.Braid) bool { return len(x.Word) > 10 })
	for i := range 300 {
		n := 2 + i%5
		all = append(all, samples.Braid{Strands: n, Word: samples.DrawnWord(&die, n, 8+i%3)})
	}
	for _, x := range all {
		got, e := poly.Unit(terms.Expanded(minorOf(burau(t, x.Strands, x.Word))).InForm())
		want, f := alex.Alexander(closed(t, x.Strands, x.Word))
		if e != api.OK || f != api.OK || !slices.Equal(got, want) {
			t.Fatal(x, got, e, "wanted:", want, f)
		}
		if len(want) > 0 {
			lengths[len(want)]++
		}
	}
	if lengths[1] < 50 || lengths[2] < 50 || lengths[3] < 50 || lengths[5] < 20 || lengths[7] < 5 {
		t.Error("too few:", lengths)
	}
}
