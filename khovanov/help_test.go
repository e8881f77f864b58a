package khovanov_test

import (
	"slices"
	"testing"

	"knotwork/api"
	"knotwork/drawing"
	"knotwork/khovanov"
	"knotwork/moved"
	"knotwork/poly"
	"knotwork/samples"
	"knotwork/terms"
)

// The most crossings and loops that the chapter takes.
const (
	most      = 6
	mostLoops = 2
)

// ranks of a diagram that has some: they are in form, and above 0.
func ranks(t *testing.T, d api.Diagram) []api.Term2 {
	t.Helper()
	l, e := khovanov.Ranks(d)
	if e != api.OK || len(l) == 0 || !slices.Equal(pairs(l).InForm(), l) {
		t.Fatal(d, l, e)
	}
	for _, term := range l {
		if term.Coef <= 0 {
			t.Fatal(d, l)
		}
	}
	return l
}

// euler: the sum of a diagram that has one: it is in form.
func euler(t *testing.T, d api.Diagram) []api.Term {
	t.Helper()
	a, e := khovanov.Euler(d)
	if e != api.OK || !slices.Equal(terms.Of(a).InForm(), a) {
		t.Fatal(d, a, e)
	}
	return a
}

// pairs: terms of two variables, put to work.
func pairs(l []api.Term2) terms.Pairs {
	p := terms.Pairs{}
	for _, term := range l {
		p[terms.Pair{X: term.X, Z: term.Z}] += term.Coef
	}
	return p
}

// product of ranks.
func product(a, b []api.Term2) []api.Term2 { return pairs(a).Times(pairs(b)).InForm() }

// byX: ranks told by their first degrees: of each a text, in which the exponents of the variable are the second ones.
func byX(texts map[int]string) []api.Term2 {
	p := terms.Pairs{}
	for x, s := range texts {
		a, e := poly.Read(s)
		if e != api.OK {
			panic(e.Error() + ": " + s)
		}
		for _, term := range a {
			p[terms.Pair{X: x, Z: term.Exp}] = term.Coef
		}
	}
	return p.InForm()
}

// ringsApart: the ranks of so many rings.
func ringsApart(count int) []api.Term2 {
	var l []api.Term2
	coef := 1
	for j := range count + 1 {
		l = append(l, api.Term2{Z: 2*j - count, Coef: coef})
		coef = coef * (count - j) / (j + 1)
	}
	return l
}

// The means of these tests: what rings have, and products, worked out by hand.
func TestMeans(t *testing.T) {
	for count, want := range []string{"1", "t^-1 + t", "t^-2 + 2 + t^2", "t^-3 + 3*t^-1 + 3*t + t^3"} {
		if got := ringsApart(count); !slices.Equal(got, byX(map[int]string{0: want})) {
			t.Error(count, got, "wanted:", want)
		}
	}
	a, b := byX(map[int]string{-1: "t^2", 3: "2*t"}), byX(map[int]string{0: "1 + t", 4: "t^5"})
	if got, want := product(a, b), byX(map[int]string{-1: "t^2 + t^3", 3: "2*t + 2*t^2 + t^7", 7: "2*t^6"}); !slices.Equal(got, want) {
		t.Error(got, "wanted:", want)
	}
}

// piecesOf a diagram: how many there are.
func piecesOf(d api.Diagram) int {
	w, _ := drawing.Of(d)
	_, count := w.Pieces()
	return count
}

// taken: does the chapter take a diagram on a sphere?
func taken(d api.Diagram) bool { return len(d.Crosses) <= most && d.Loops <= mostLoops }

// smallOnes: those of many diagrams that the chapter takes: some whose strands go above and below by turns, and some of several pieces.
func smallOnes() []api.Diagram {
	l := moved.UpTo(most)
	die := samples.Die(151)
	for i := range 100 {
		var word []int
		for range 3 + i%(most-2) {
			word = append(word, []int{1, -2}[die.Below(2)])
		}
		d := samples.Weave(3, word)
		if i%7 == 0 {
			d = samples.Beside(samples.Chain(2+i%2, i%3 == 0), samples.Woven(&die, 3))
		}
		d.Loops += die.Below(3)
		l = append(l, samples.Renamed(&die, moved.Turned(&die, d)))
	}
	return slices.DeleteFunc(l, func(d api.Diagram) bool { return !taken(d) })
}
