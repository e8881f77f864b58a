package khovanov_test

import (
	"slices"
	"testing"

	"knotwork/api"
	"knotwork/bracket"
	"knotwork/moved"
	"knotwork/poly"
	"knotwork/samples"
	"knotwork/terms"
)

// P15.3: sums that were worked out by hand.
func TestEulerByHand(t *testing.T) {
	for _, x := range []struct {
		what string
		d    api.Diagram
		want string
	}{
		{"one loop", samples.With(1), "t^-1 + t"},
		{"two loops", samples.With(2), "t^-2 + 2 + t^2"},
		{"a curl", samples.OfText("X-[1,2,2,1]"), "t^-1 + t"},
		{"the trefoil", samples.Trefoil(), "-t^-9 + t^-5 + t^-3 + t^-1"},
		{"the trefoil's mirror image", moved.Mirrored(samples.Trefoil()), "t + t^3 + t^5 - t^9"},
		{"the figure of eight", samples.Weave(3, []int{1, -2, 1, -2}), "t^-5 + t^5"},
		{"two rings, linked", samples.Chain(2, true), "1 + t^2 + t^4 + t^6"},
		{"two rings, linked, and a loop", samples.Beside(samples.Chain(2, true), samples.With(1)), "t^-1 + 2*t + 2*t^3 + 2*t^5 + t^7"},
		{"Borromeo's rings", samples.Weave(3, []int{1, -2, 1, -2, 1, -2}), "-t^-7 + 2*t^-5 + t^-3 + 2*t^-1 + 2*t + t^3 + 2*t^5 - t^7"},
	} {
		if got, e := poly.Text(euler(t, x.d)); e != api.OK || got != x.want {
			t.Error(x.what, got, e, "wanted:", x.want)
		}
	}
}

// P15.3: of many diagrams, by their ranks; terms that come to 0 are left out.
func TestEuler(t *testing.T) {
	odd, less := 0, 0
	for _, d := range smallOnes() {
		even, all := terms.Work{}, terms.Work{}
		for _, term := range ranks(t, d) {
			all[term.Z] += term.Coef
			if term.X%2 == 0 {
				even[term.Z] += term.Coef
			} else {
				odd++
			}
		}
		want := terms.Work{}
		for z := range all {
			want[z] = 2*even[z] - all[z]
		}
		got := euler(t, d)
		if !slices.Equal(got, want.InForm()) {
			t.Fatal(d, got, "wanted:", want.InForm())
		}
		if len(got) < len(all) {
			less++
		}
	}
	if odd < 200 || less < 60 {
		t.Error("too few:", odd, less)
	}
}

// What comes of it: where the variable is -A^-2 it is Jones's polynomial (chapter 10) times -A^2 - A^-2.
func TestJones(t *testing.T) {
	long := 0
	for _, d := range smallOnes() {
		jones, e := bracket.Jones(d)
		if e != api.OK {
			t.Fatal(d, e)
		}
		want := terms.Of(jones).Times(terms.Work{2: -1, -2: -1}).InForm()
		got := terms.Work{}
		for _, term := range euler(t, d) {
			got[-2*term.Exp] = term.Coef
			if term.Exp%2 != 0 {
				got[-2*term.Exp] = -term.Coef
			}
		}
		if !slices.Equal(got.InForm(), want) {
			t.Fatal(d, got.InForm(), "wanted:", want)
		}
		if len(want) > 4 {
			long++
		}
	}
	if long < 60 {
		t.Error("too few:", long)
	}
}
