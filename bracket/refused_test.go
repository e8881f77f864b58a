package bracket_test

import (
	"math"
	"testing"

	"knotwork/api"
	"knotwork/bracket"
	"knotwork/moved"
	"knotwork/samples"
)

// allRefuse: do all calls answer that error and nothing else?
func allRefuse(t *testing.T, what string, d api.Diagram, want api.Errno) {
	t.Helper()
	if a, e := bracket.Bracket(d); len(a) != 0 || e != want {
		t.Error("Bracket:", what, d, a, e, "wanted:", want)
	}
	if a, e := bracket.Jones(d); len(a) != 0 || e != want {
		t.Error("Jones:", what, d, a, e, "wanted:", want)
	}
	for k := range 4 {
		if z, e := bracket.At(d, k); z != 0 || e != want {
			t.Error("At:", what, d, k, z, e, "wanted:", want)
		}
	}
	outOfRange(t, what, d)
}

// outOfRange: P10.3: powers that are not from 0 to 3 are refused ahead of all else.
func outOfRange(t *testing.T, what string, d api.Diagram) {
	t.Helper()
	for _, k := range []int{-1, -2, -4, 4, 5, 8, math.MinInt, math.MaxInt} {
		if z, e := bracket.At(d, k); z != 0 || e != api.ErrRange {
			t.Error("At:", what, d, k, z, e)
		}
	}
}

// P10.3: powers out of range, of diagrams that nothing is wrong with, and of links without a value.
func TestRange(t *testing.T) {
	for _, d := range smallOnes() {
		outOfRange(t, "drawn", d)
	}
}

// The chapter's opening: what may not be, and behind that what lies on no sphere, is refused ahead of what has too many crossings, or other exponents.
func TestStateAndPlane(t *testing.T) {
	for _, x := range samples.RefusedOnes(most) {
		allRefuse(t, x.What, x.Diagram, x.Want)
	}
}

// The chapter's opening: more than 12 crossings are too many, whatever else there is, and ahead of other exponents; 12 are not.
func TestSize(t *testing.T) {
	for _, x := range moved.Beyond(most) {
		allRefuse(t, x.What, x.Diagram, api.ErrSize)
	}
	for by := range 4 {
		if re, im := at(t, moved.Curls(most, by), 1); re != 1 || im != 0 {
			t.Error(by, re, im)
		}
	}
}
