package tangle_test

import (
	"slices"
	"sync"
	"testing"

	"knotwork/api"
	"knotwork/samples"
	"knotwork/tangle"
)

// What holds everywhere: lists that are handed in stay as they are, spare room too; refused ones likewise.
func TestNothingChanges(t *testing.T) {
	lists := rightOnes()
	for _, x := range refusedLists() {
		lists = append(lists, x.list)
	}
	for _, l := range lists {
		given := samples.WithRoom(l, 77)
		want := slices.Clone(given[:cap(given)])
		tangle.Fraction(given)
		tangle.Link(given)
		if !slices.Equal(given[:cap(given)], want) {
			t.Fatal(l, "was changed")
		}
	}
}

// What holds everywhere: an answer is new memory, spare room too.
func TestMemory(t *testing.T) {
	for _, l := range [][]int{{0}, {1}, {3}, {2, 1, 1}, {0, -1, 0}, {16}, {2, -3, 1, 0, -4}} {
		if !samples.Apart(api.Cross{A: 99, B: 99, C: 99, D: 99}, func() [][]api.Cross {
			return [][]api.Cross{link(t, l).Crosses, link(t, l).Crosses}
		}) {
			t.Error(l, "memory is shared")
		}
	}
	for _, x := range fractions(30) {
		if !samples.Apart(99, func() [][]int {
			return [][]int{expand(t, x[0], x[1]), expand(t, x[0], x[1])}
		}) {
			t.Error(x, "memory is shared")
		}
	}
}

// What holds everywhere: calls may be made side by side, and answer the same, whatever was asked before.
func TestSideBySide(t *testing.T) {
	l := []int{2, -3, 1, 0, -4}
	want := link(t, l)
	answers := make([]api.Diagram, 16)
	var wait sync.WaitGroup
	for i := range answers {
		wait.Go(func() {
			tangle.Link([]int{i})
			answers[i], _ = tangle.Link(l)
		})
	}
	wait.Wait()
	for _, got := range answers {
		if !samples.Alike(got, want) {
			t.Error(got, "wanted:", want)
		}
	}
}
