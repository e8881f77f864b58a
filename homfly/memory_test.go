package homfly_test

import (
	"slices"
	"sync"
	"testing"

	"knotwork/api"
	"knotwork/homfly"
	"knotwork/moved"
	"knotwork/samples"
)

// What holds everywhere: what is handed in stays as it is, spare room too.
func TestNothingChanges(t *testing.T) {
	ones := append(smallOnes()[:40], samples.Trefoil(), samples.OfText("X-[1,2,2,1] O"), samples.With(1), samples.With(2), samples.OfText("X-[1,2,1,2]"), samples.With(0, api.Cross{A: 9}), samples.With(0), samples.Chain(9, true))
	for _, d := range ones {
		if !samples.Unchanged(d, func(given api.Diagram) {
			homfly.Homfly(given)
			homfly.Conway(given)
			for k := -1; k <= len(given.Crosses); k++ {
				homfly.Change(given, k)
				homfly.Smooth(given, k)
			}
		}) {
			t.Error(d, "was changed")
		}
	}
}

// What holds everywhere: an answer is new memory, spare room too.
func TestMemory(t *testing.T) {
	for _, d := range []api.Diagram{samples.Trefoil(), samples.With(1), samples.With(2), samples.With(3), moved.Curls(2, 1), samples.Weave(3, []int{1, -2, 1, -2, -2})} {
		if !samples.Apart(api.Term2{X: 99, Z: 99, Coef: 99}, func() [][]api.Term2 {
			return [][]api.Term2{homflyOf(t, d), homflyOf(t, d)}
		}) || !samples.Apart(api.Term{Exp: 99, Coef: 99}, func() [][]api.Term {
			return [][]api.Term{conway(t, d), conway(t, d)}
		}) {
			t.Error(d, "memory is shared")
		}
		for k := range d.Crosses {
			if !samples.Apart(api.Cross{A: 99, B: 99, C: 99, D: 99}, func() [][]api.Cross {
				return [][]api.Cross{change(t, d, k).Crosses, smooth(t, d, k).Crosses, change(t, d, k).Crosses, smooth(t, d, k).Crosses}
			}) {
				t.Error(d, k, "memory is shared")
			}
		}
	}
}

// What holds everywhere: what is answered does not lie where the diagram lies that was handed in, spare room neither.
func TestAnswersApart(t *testing.T) {
	fill := api.Cross{A: 77, B: 78, C: 79, D: 80, Plus: true}
	for _, d := range smallOnes() {
		for k := range d.Crosses {
			for name, call := range asked() {
				if !samples.Unchanged(d, func(given api.Diagram) {
					got, _ := call(given, k)
					spoiled := got.Crosses[:cap(got.Crosses)]
					for i := range spoiled {
						spoiled[i] = api.Cross{}
					}
				}) {
					t.Fatal(name, d, k, "shares memory")
				}
				given := api.Diagram{Crosses: samples.WithRoom(d.Crosses, fill), Loops: d.Loops}
				got, _ := call(given, k)
				want := slices.Clone(got.Crosses)
				for i := range given.Crosses {
					given.Crosses[i] = fill
				}
				if !slices.Equal(got.Crosses, want) {
					t.Fatal(name, d, k, "keeps what it was given")
				}
			}
		}
	}
}

// What holds everywhere: calls may be made side by side, and answer the same.
func TestSideBySide(t *testing.T) {
	d := samples.Weave(3, []int{1, -2, 1, -2, 1, -2, 1, -2})
	want := homflyOf(t, d)
	var wait sync.WaitGroup
	answers := make([][]api.Term2, 16)
	for i := range answers {
		wait.Go(func() { answers[i], _ = homfly.Homfly(d) })
	}
	wait.Wait()
	for _, got := range answers {
		if !slices.Equal(got, want) {
			t.Error(got, "wanted:", want)
		}
	}
}
