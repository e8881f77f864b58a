package bracket_test

import (
	"slices"
	"sync"
	"testing"

	"knotwork/api"
	"knotwork/bracket"
	"knotwork/moved"
	"knotwork/samples"
)

// What holds everywhere: what is handed in stays as it is, spare room too.
func TestNothingChanges(t *testing.T) {
	ones := append(smallOnes()[:40], samples.Trefoil(), samples.OfText("X-[1,2,2,1] O"), samples.With(1), samples.With(2), samples.OfText("X-[1,2,1,2]"), samples.With(0, api.Cross{A: 9}), samples.With(0), samples.Chain(13, true))
	for _, d := range ones {
		if !samples.Unchanged(d, func(given api.Diagram) {
			bracket.Bracket(given)
			bracket.Jones(given)
			for k := range 5 {
				bracket.At(given, k)
			}
		}) {
			t.Error(d, "was changed")
		}
	}
}

// What holds everywhere: an answer is new memory, spare room too; what a ring is worth is not handed out.
func TestMemory(t *testing.T) {
	for _, d := range []api.Diagram{samples.Trefoil(), samples.With(1), samples.With(2), samples.With(3), moved.Curls(2, 1), samples.Weave(3, []int{1, -2, 1, -2, -2})} {
		if !samples.Apart(api.Term{Exp: 99, Coef: 99}, func() [][]api.Term {
			return [][]api.Term{bracketOf(t, d), bracketOf(t, d), jones(t, d), jones(t, d)}
		}) {
			t.Error(d, "memory is shared")
		}
	}
}

// What holds everywhere: calls may be made side by side, and answer the same.
func TestSideBySide(t *testing.T) {
	d := samples.Weave(3, []int{1, -2, 1, -2, 1, -2, -2, 1, 1, 1, 2, -1})
	want := jones(t, d)
	var wait sync.WaitGroup
	answers := make([][]api.Term, 16)
	for i := range answers {
		wait.Go(func() { answers[i], _ = bracket.Jones(d) })
	}
	wait.Wait()
	for _, got := range answers {
		if !slices.Equal(got, want) {
			t.Error(got, "wanted:", want)
		}
	}
}
