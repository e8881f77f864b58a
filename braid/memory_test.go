package braid_test

import (
	"slices"
	"sync"
	"testing"

	"knotwork/api"
	"knotwork/braid"
	"knotwork/samples"
)

// What holds everywhere: words that are handed in stay as they are, spare room too; refused ones likewise.
func TestNothingChanges(t *testing.T) {
	all := rightOnes()
	for _, x := range samples.RefusedWords() {
		all = append(all, samples.Braid{Strands: x.Strands, Word: x.Word})
	}
	for _, x := range all {
		u, v := samples.WithRoom(x.Word, 77), samples.WithRoom(x.Word, 78)
		wantU, wantV := slices.Clone(u[:cap(u)]), slices.Clone(v[:cap(v)])
		braid.Ends(x.Strands, u)
		braid.Act(x.Strands, u)
		braid.Normal(x.Strands, u)
		braid.Equal(x.Strands, u, v)
		if !slices.Equal(u[:cap(u)], wantU) || !slices.Equal(v[:cap(v)], wantV) {
			t.Fatal(x, "was changed")
		}
	}
}

// What holds everywhere: an answer is new memory, spare room too, and no two of its lists share any.
func TestMemory(t *testing.T) {
	die := samples.Die(140)
	for i := range 200 {
		n := 2 + i%5
		w := samples.DrawnWord(&die, n, i%11)
		if !samples.Apart(99, func() [][]int {
			_, factors := normal(t, n, w)
			_, again := normal(t, n, w)
			return slices.Concat([][]int{ends(t, n, w), ends(t, n, w)}, act(t, n, w), act(t, n, w), factors, again)
		}) {
			t.Fatal(n, w, "memory is shared")
		}
	}
}

// What holds everywhere: lists of lists are new, too, their spare room too.
func TestMemoryOfLists(t *testing.T) {
	w := []int{1, 2, -3, 1, 1}
	texts := act(t, 4, w)
	_, factors := normal(t, 4, w)
	for _, l := range [][][]int{texts[:cap(texts)], factors[:cap(factors)]} {
		for i := range l {
			l[i] = []int{99}
		}
	}
	_, again := normal(t, 4, w)
	if alike(act(t, 4, w), texts) || alike(again, factors) {
		t.Error("memory is shared")
	}
}

// What holds everywhere: calls may be made side by side, and answer the same, whatever was asked before.
func TestSideBySide(t *testing.T) {
	w := []int{1, -2, 3, 3, -4, 2, 1, 5, -5, 2}
	wantPower, wantFactors := normal(t, 6, w)
	want := act(t, 6, w)
	var wait sync.WaitGroup
	for i := range 16 {
		wait.Go(func() {
			braid.Normal(3, slices.Repeat([]int{1, -2}, i))
			power, factors, e := braid.Normal(6, w)
			texts, f := braid.Act(6, w)
			if power != wantPower || !alike(factors, wantFactors) || !alike(texts, want) || e != api.OK || f != api.OK {
				t.Error(power, factors, texts, e, f)
			}
		})
	}
	wait.Wait()
}
