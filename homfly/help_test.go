package homfly_test

import (
	"cmp"
	"slices"
	"testing"

	"knotwork/api"
	"knotwork/code"
	"knotwork/homfly"
	"knotwork/moved"
	"knotwork/poly"
	"knotwork/samples"
	"knotwork/terms"
)

// most crossings that the chapter takes.
const most = 8

// change a crossing that there is: what comes of it lies on a sphere.
func change(t *testing.T, d api.Diagram, k int) api.Diagram {
	t.Helper()
	changed, e := homfly.Change(d, k)
	if e != api.OK || !planar(changed) {
		t.Fatal(d, k, changed, e)
	}
	return changed
}

// smooth a crossing that there is: what comes of it lies on a sphere.
func smooth(t *testing.T, d api.Diagram, k int) api.Diagram {
	t.Helper()
	smoothed, e := homfly.Smooth(d, k)
	if e != api.OK || !planar(smoothed) {
		t.Fatal(d, k, smoothed, e)
	}
	return smoothed
}

// planar: may a diagram be, and does it lie on a sphere?
func planar(d api.Diagram) bool {
	p, e := code.Planar(d)
	return p && e == api.OK
}

// inOrder: by X, then by Z.
func inOrder(a, b api.Term2) int { return cmp.Or(cmp.Compare(a.X, b.X), cmp.Compare(a.Z, b.Z)) }

// homflyOf a diagram that has one: it is in form.
func homflyOf(t *testing.T, d api.Diagram) []api.Term2 {
	t.Helper()
	a, e := homfly.Homfly(d)
	if e != api.OK {
		t.Fatal(d, e)
	}
	for i, term := range a {
		if term.Coef == 0 || i > 0 && inOrder(a[i-1], term) >= 0 {
			t.Fatal(d, a)
		}
	}
	return a
}

// conway: the polynomial of a diagram that has one: it is in form.
func conway(t *testing.T, d api.Diagram) []api.Term {
	t.Helper()
	a, e := homfly.Conway(d)
	if e != api.OK || !slices.Equal(terms.Of(a).InForm(), a) {
		t.Fatal(d, a, e)
	}
	return a
}

// inForm: the sum of terms of both variables.
func inForm(l []api.Term2) []api.Term2 {
	var sum []api.Term2
	for _, term := range slices.SortedFunc(slices.Values(l), inOrder) {
		if last := len(sum) - 1; last >= 0 && inOrder(sum[last], term) == 0 {
			sum[last].Coef += term.Coef
		} else {
			sum = append(sum, term)
		}
	}
	return slices.DeleteFunc(sum, func(term api.Term2) bool { return term.Coef == 0 })
}

// product of polynomials of both variables.
func product(a, b []api.Term2) []api.Term2 {
	var l []api.Term2
	for _, x := range a {
		for _, y := range b {
			l = append(l, api.Term2{X: x.X + y.X, Z: x.Z + y.Z, Coef: x.Coef * y.Coef})
		}
	}
	return inForm(l)
}

// read a polynomial's text.
func read(s string) []api.Term {
	a, e := poly.Read(s)
	if e != api.OK {
		panic(e.Error() + ": " + s)
	}
	return a
}

// byZ: a polynomial of both variables, told by powers of z: of each a text, whose variable stands for x.
func byZ(texts map[int]string) []api.Term2 {
	var l []api.Term2
	for z, s := range texts {
		for _, term := range read(s) {
			l = append(l, api.Term2{X: term.Exp, Z: z, Coef: term.Coef})
		}
	}
	return inForm(l)
}

// ringsApart: what so many rings are worth.
func ringsApart(count int) []api.Term2 {
	var l []api.Term2
	coef := 1
	for j := range count {
		l = append(l, api.Term2{X: count - 1 - 2*j, Z: 1 - count, Coef: coef})
		coef = -coef * (count - 1 - j) / (j + 1)
	}
	return inForm(l)
}

// image: with x^-1 for x and -z for z.
func image(a []api.Term2) []api.Term2 {
	l := slices.Clone(a)
	for i, term := range l {
		l[i].X = -term.X
		if term.Z%2 != 0 {
			l[i].Coef = -term.Coef
		}
	}
	return inForm(l)
}

// The means of these tests: what rings are worth, and products, worked out by hand.
func TestMeans(t *testing.T) {
	for count, want := range []map[int]string{1: {0: "1"}, 2: {-1: "-t^-1 + t"}, 3: {-2: "t^-2 - 2 + t^2"}, 4: {-3: "-t^-3 + 3*t^-1 - 3*t + t^3"}} {
		if got := ringsApart(count); count > 0 && !slices.Equal(got, byZ(want)) {
			t.Error(count, got, "wanted:", want)
		}
	}
	a, b := byZ(map[int]string{-1: "t^-1 + t", 2: "3"}), byZ(map[int]string{0: "t", 3: "-3*t^-1"})
	if got, want := product(a, b), byZ(map[int]string{-1: "1 + t^2", 2: "-3*t^-2 - 3 + 3*t", 5: "-9*t^-1"}); !slices.Equal(got, want) {
		t.Error(got, "wanted:", want)
	}
	if got, want := image(a), byZ(map[int]string{-1: "-t^-1 - t", 2: "3"}); !slices.Equal(got, want) {
		t.Error(got, "wanted:", want)
	}
}

// smallOnes: those of many diagrams that the chapter takes, and some whose strands go above and below by turns.
func smallOnes() []api.Diagram {
	l := moved.UpTo(most)
	die := samples.Die(111)
	for i := range 100 {
		var word []int
		for range 3 + i%(most-2) {
			word = append(word, []int{1, -2}[die.Below(2)])
		}
		l = append(l, samples.Renamed(&die, samples.Weave(3, word)))
	}
	return l
}
