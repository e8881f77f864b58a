package closure_test

import (
	"slices"
	"sync"
	"testing"

	"knotwork/api"
	"knotwork/closure"
	"knotwork/samples"
)

// What holds everywhere: words that are handed in stay as they are, spare room too; refused ones likewise.
func TestNothingChanges(t *testing.T) {
	all := toTable()
	for _, x := range samples.RefusedWords() {
		all = append(all, samples.Braid{Strands: x.Strands, Word: x.Word})
	}
	for _, x := range all {
		w := samples.WithRoom(x.Word, 77)
		want := slices.Clone(w[:cap(w)])
		closure.Close(x.Strands, w)
		closure.Burau(x.Strands, w)
		if !slices.Equal(w[:cap(w)], want) {
			t.Fatal(x, "was changed")
		}
	}
}

// What holds everywhere: an answer is new memory, spare room too, and no two of its lists share any.
func TestMemory(t *testing.T) {
	die := samples.Die(147)
	for i := range 100 {
		n := 2 + i%5
		w := samples.DrawnWord(&die, n, i%11)
		if !samples.Apart(api.Term{Exp: 99, Coef: 99}, func() [][]api.Term {
			return slices.Concat(slices.Concat(burau(t, n, w)...), slices.Concat(burau(t, n, w)...))
		}) {
			t.Fatal(n, w, "Burau: memory is shared")
		}
		if !samples.Apart(api.Cross{A: 99}, func() [][]api.Cross {
			return [][]api.Cross{closed(t, n, w).Crosses, closed(t, n, w).Crosses}
		}) {
			t.Fatal(n, w, "Close: memory is shared")
		}
	}
}

// What holds everywhere: rows and the list of them are new, too, their spare room too, and no two rows share any.
func TestMemoryOfRows(t *testing.T) {
	w := []int{1, 2, -3, 1, 1}
	fill := []api.Term{{Exp: 99, Coef: 99}}
	want := burauByWords(4, w)
	for i := range want {
		got := burau(t, 4, w)
		row := got[i][:cap(got[i])]
		for j := range row {
			row[j] = fill
		}
		for k := range got {
			if k != i && !alike(got[k:k+1], want[k:k+1]) {
				t.Error("rows share memory:", i, k)
			}
		}
	}
	got := burau(t, 4, w)
	for i := range got[:cap(got)] {
		got[:cap(got)][i] = nil
	}
	if !alike(burau(t, 4, w), want) {
		t.Error("memory is shared")
	}
}

// What holds everywhere: calls may be made side by side, and answer the same, whatever was asked before.
func TestSideBySide(t *testing.T) {
	w := []int{1, -2, 3, 3, -4, 2, 1, 5, -5, 2}
	wantLink, wantTable := closed(t, 6, w), burau(t, 6, w)
	var wait sync.WaitGroup
	for i := range 16 {
		wait.Go(func() {
			closure.Close(3, slices.Repeat([]int{1, -2}, i))
			closure.Burau(3, slices.Repeat([]int{1, -2}, i))
			d, e := closure.Close(6, w)
			m, f := closure.Burau(6, w)
			if !samples.Alike(d, wantLink) || !alike(m, wantTable) || e != api.OK || f != api.OK {
				t.Error(d, m, e, f)
			}
		})
	}
	wait.Wait()
}
