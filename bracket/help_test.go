package bracket_test

import (
	"math"
	"testing"

	"knotwork/api"
	"knotwork/bracket"
	"knotwork/moved"
	"knotwork/poly"
	"knotwork/samples"
	"knotwork/terms"
)

// most crossings that the chapter takes.
const most = 12

// bracketOf a diagram that has one.
func bracketOf(t *testing.T, d api.Diagram) []api.Term {
	t.Helper()
	a, e := bracket.Bracket(d)
	if e != api.OK {
		t.Fatal(d, e)
	}
	return a
}

// jones: the polynomial of a diagram that has one.
func jones(t *testing.T, d api.Diagram) []api.Term {
	t.Helper()
	a, e := bracket.Jones(d)
	if e != api.OK {
		t.Fatal(d, e)
	}
	return a
}

// at: the value of a diagram that has one: whole numbers, none of them -0.
func at(t *testing.T, d api.Diagram, k int) (re, im int) {
	t.Helper()
	z, e := bracket.At(d, k)
	if e != api.OK {
		t.Fatal(d, k, e)
	}
	for _, x := range []float64{real(z), imag(z)} {
		if x != math.Trunc(x) || x == 0 && math.Signbit(x) {
			t.Fatal(d, k, z)
		}
	}
	return int(real(z)), int(imag(z))
}

// product of polynomials, however great.
func product(a, b []api.Term) []api.Term { return terms.Of(a).Times(terms.Of(b)).InForm() }

// flipped: all exponents with the other sign.
func flipped(a []api.Term) []api.Term {
	p := terms.Work{}
	for _, t := range a {
		p[-t.Exp] = t.Coef
	}
	return p.InForm()
}

// read a polynomial's text; its variable stands for A.
func read(s string) []api.Term {
	a, e := poly.Read(s)
	if e != api.OK {
		panic(e.Error() + ": " + s)
	}
	return a
}

// ringsApart: what so many rings are worth.
func ringsApart(count int) []api.Term {
	p := terms.Work{}
	coef := 1 - 2*((count-1)%2)
	for j := range count {
		p[2*(count-1)-4*j] = coef
		coef = coef * (count - 1 - j) / (j + 1)
	}
	return p.InForm()
}

// The means of these tests: what rings are worth, worked out by hand.
func TestRingsApart(t *testing.T) {
	for count, want := range []string{1: "1", 2: "-t^-2 - t^2", 3: "t^-4 + 2 + t^4", 4: "-t^-6 - 3*t^-2 - 3*t^2 - t^6"} {
		if count == 0 {
			continue
		}
		if got, _ := poly.Text(ringsApart(count)); got != want {
			t.Error(count, got, "wanted:", want)
		}
	}
}

// smallOnes: those of many diagrams that the chapter takes, and some whose strands go above and below by turns.
func smallOnes() []api.Diagram {
	l := moved.UpTo(most)
	die := samples.Die(104)
	for i := range 100 {
		var word []int
		for range 3 + i%10 {
			word = append(word, []int{1, -2}[die.Below(2)])
		}
		l = append(l, samples.Renamed(&die, samples.Weave(3, word)))
	}
	return l
}
