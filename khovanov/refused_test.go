package khovanov_test

import (
	"testing"

	"knotwork/api"
	"knotwork/khovanov"
	"knotwork/moved"
	"knotwork/samples"
)

// bothRefuse: do both calls answer that error and nothing else?
func bothRefuse(t *testing.T, what string, d api.Diagram, want api.Errno) {
	t.Helper()
	if l, e := khovanov.Ranks(d); len(l) != 0 || e != want {
		t.Error("Ranks:", what, d, l, e, "wanted:", want)
	}
	if a, e := khovanov.Euler(d); len(a) != 0 || e != want {
		t.Error("Euler:", what, d, a, e, "wanted:", want)
	}
}

// The chapter's opening: what may not be, and behind that what lies on no sphere, is refused ahead of what has too many crossings or loops.
func TestStateAndPlane(t *testing.T) {
	for _, x := range samples.RefusedOnes(most) {
		bothRefuse(t, x.What, x.Diagram, x.Want)
		if x.Want == api.ErrPlane && x.Loops <= mostLoops {
			bothRefuse(t, x.What+", beside many loops", samples.Beside(x.Diagram, samples.With(mostLoops+1)), x.Want)
		}
		if x.Want == api.ErrState && len(x.Crosses) > 0 && x.Loops == 0 {
			bothRefuse(t, x.What+", beside many loops", samples.Beside(x.Diagram, samples.With(mostLoops+1)), x.Want)
		}
	}
}

// The chapter's opening: more than 6 crossings are too many, whatever else there is; 6 are not.
func TestSize(t *testing.T) {
	for _, x := range moved.Beyond(most) {
		bothRefuse(t, x.What, x.Diagram, api.ErrSize)
	}
	for _, plus := range []bool{false, true} {
		d := samples.Chain(most, plus)
		ranks(t, d)
		euler(t, d)
	}
}

// The chapter's opening: more than 2 loops are too many, with crossings and without; 2 are not.
func TestLoops(t *testing.T) {
	ones := append(smallOnes(), samples.With(0), samples.Chain(most, true), samples.Chain(most+1, true))
	for i, d := range ones {
		d.Loops = mostLoops + 1 + i%(api.MaxLoops-mostLoops)
		bothRefuse(t, "many loops", d, api.ErrSize)
		if d.Loops = mostLoops; taken(d) {
			ranks(t, d)
			euler(t, d)
		}
	}
	for loops := mostLoops + 1; loops <= api.MaxLoops; loops++ {
		bothRefuse(t, "loops alone", samples.With(loops), api.ErrSize)
	}
}
