package table_test

import (
	"runtime"
	"slices"
	"sync"
	"testing"

	"knotwork/api"
	"knotwork/samples"
	"knotwork/table"
)

// What holds everywhere: what is handed in stays as it is, spare room too.
func TestNothingChanges(t *testing.T) {
	ones := append(slidOnes(), samples.Trefoil(), samples.OfText("X-[1,2,2,1] O"), samples.With(1), samples.With(2), samples.OfText("X-[1,2,1,2]"), samples.With(0, api.Cross{A: 9}), samples.With(0), samples.Chain(mostCross+1, true))
	for _, d := range append(ones, smallOnes(mostCross)[:40]...) {
		if !samples.Unchanged(d, func(given api.Diagram) {
			for depth := -1; depth <= mostDepth+1; depth++ {
				table.Seek(given, depth)
			}
		}) {
			t.Error(d, "was changed")
		}
	}
}

// What holds everywhere: an answer is new memory, spare room too.
func TestMemory(t *testing.T) {
	for n := fewest; n <= most; n++ {
		if !samples.Apart("?", func() [][]string { return [][]string{texts(t, n), texts(t, n)} }) {
			t.Error(n, "memory is shared")
		}
	}
	for _, d := range slidOnes() {
		if !samples.Apart(api.Move{Kind: 99}, func() [][]api.Move { return [][]api.Move{way(t, d, mostDepth), way(t, d, mostDepth)} }) {
			t.Error(d, "memory is shared")
		}
	}
}

// What holds everywhere: an answer hangs on the arguments alone, however workers run; calls may be made side by side.
func TestSideBySide(t *testing.T) {
	wantTexts := texts(t, most)
	d := samples.Weave(3, []int{1, 1, -1, -2, -2, 1, 2})
	wantWay := way(t, d, mostDepth)
	var wait sync.WaitGroup
	tables, ways := make([][]string, 24), make([][]api.Move, 24)
	for i := range tables {
		wait.Go(func() { tables[i], _ = table.Table(most) })
		wait.Go(func() { ways[i], _ = table.Seek(d, mostDepth) })
	}
	wait.Wait()
	for i := range tables {
		if !slices.Equal(tables[i], wantTexts) || !slices.Equal(ways[i], wantWay) {
			t.Error(tables[i], ways[i])
		}
	}
}

// What holds everywhere: of one table after another each is what it would be by itself; an error leaves nothing behind.
func TestOneAfterAnother(t *testing.T) {
	wants := [][]string{texts(t, 3), texts(t, 4), texts(t, 5)}
	for _, n := range []int{5, 3, 6, 4, 2, 5, 4, 3, 3} {
		if got, e := table.Table(n); e == api.OK && !slices.Equal(got, wants[n-fewest]) {
			t.Error(n, got, e)
		}
	}
}

// All workers have ended when a table is told: some may be on their way out still, none is left waiting.
func TestWorkersEnd(t *testing.T) {
	before := runtime.NumGoroutine()
	for i := range 60 {
		texts(t, fewest+i%3)
	}
	for range 100000 {
		if runtime.NumGoroutine() <= before {
			return
		}
		runtime.Gosched()
	}
	t.Error("workers are left:", runtime.NumGoroutine()-before)
}
