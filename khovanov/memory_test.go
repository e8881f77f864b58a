package khovanov_test

import (
	"slices"
	"sync"
	"testing"

	"knotwork/api"
	"knotwork/khovanov"
	"knotwork/moved"
	"knotwork/samples"
)

// What holds everywhere: what is handed in stays as it is, spare room too.
func TestNothingChanges(t *testing.T) {
	ones := append(smallOnes()[:40], samples.Trefoil(), samples.OfText("X-[1,2,2,1] O"), samples.With(1), samples.With(2), samples.OfText("X-[1,2,1,2]"), samples.With(0, api.Cross{A: 9}), samples.With(0), samples.With(3), samples.Chain(most+1, true))
	for _, d := range ones {
		if !samples.Unchanged(d, func(given api.Diagram) {
			khovanov.Ranks(given)
			khovanov.Euler(given)
		}) {
			t.Error(d, "was changed")
		}
	}
}

// What holds everywhere: an answer is new memory, spare room too.
func TestMemory(t *testing.T) {
	for _, d := range []api.Diagram{samples.Trefoil(), samples.With(1), samples.With(2), moved.Curls(2, 1), samples.Weave(3, []int{1, -2, 1, -2, -2})} {
		if !samples.Apart(api.Term2{X: 99, Z: 99, Coef: 99}, func() [][]api.Term2 {
			return [][]api.Term2{ranks(t, d), ranks(t, d)}
		}) || !samples.Apart(api.Term{Exp: 99, Coef: 99}, func() [][]api.Term {
			return [][]api.Term{euler(t, d), euler(t, d)}
		}) {
			t.Error(d, "memory is shared")
		}
	}
}

// What holds everywhere: an answer hangs on the diagram alone, however maps are gone through; calls may be made side by side.
func TestSideBySide(t *testing.T) {
	d := samples.Weave(3, []int{1, -2, 1, -2, 1, -2})
	want := ranks(t, d)
	var wait sync.WaitGroup
	answers := make([][]api.Term2, 16)
	for i := range answers {
		wait.Go(func() { answers[i], _ = khovanov.Ranks(d) })
	}
	wait.Wait()
	for _, got := range answers {
		if !slices.Equal(got, want) {
			t.Error(got, "wanted:", want)
		}
	}
}
