package moves_test

import (
	"slices"
	"testing"

	"knotwork/api"
	"knotwork/moves"
	"knotwork/samples"
)

// someMoves: several of each kind.
func someMoves() []api.Move {
	return []api.Move{curl(0, 0), curl(1, 3), uncurl(0), uncurl(2), push(along(2), back(1), true), push(along(1), along(4), false), pull(0, 1), pull(1, 2), slide(0), slide(1), {}}
}

// What holds everywhere: what is handed in stays as it is, spare room too.
func TestNothingChanges(t *testing.T) {
	ones := append(samples.FlatOnes()[:40], samples.OfText("X+[6,2,1,5] X+[4,4,3,2] X+[3,6,5,1] O"), samples.OfText("X-[1,2,2,1]"), samples.With(2), samples.OfText("X-[1,2,1,2]"), samples.With(0))
	for _, d := range ones {
		if !samples.Unchanged(d, func(given api.Diagram) {
			for _, m := range someMoves() {
				moves.Do(given, m)
				moves.Row(given, []api.Move{m})
			}
			moves.Row(given, nil)
			moves.Simple(given)
		}) {
			t.Error(d, "was changed")
		}
		row := samples.WithRoom(someMoves(), curl(77, 78))
		want := slices.Clone(row[:cap(row)])
		for i := range row {
			moves.Row(d, row[i:])
		}
		if !slices.Equal(row[:cap(row)], want) {
			t.Error(d, "a row was changed")
		}
	}
}

// What holds everywhere: what is answered is new memory, shared neither with what was handed in nor with another answer; and it is the same each time.
func TestMemory(t *testing.T) {
	d := samples.Beside(samples.Weave(3, []int{1, 2, 1, -1, -2}), samples.Beside(samples.OfText("X-[1,2,2,1] O"), samples.Trefoil()))
	asks := []func() (api.Diagram, api.Errno){
		func() (api.Diagram, api.Errno) { got, _, e := moves.Row(d, nil); return got, e },
		func() (api.Diagram, api.Errno) {
			got, done, e := moves.Row(d, []api.Move{{Kind: 9}})
			if done != 0 || e != api.ErrKind {
				t.Error(done, e)
			}
			return got, api.OK
		},
		func() (api.Diagram, api.Errno) { got, _, e := moves.Row(d, []api.Move{curl(0, 1)}); return got, e },
		func() (api.Diagram, api.Errno) { got, _, e := moves.Simple(d); return got, e },
		func() (api.Diagram, api.Errno) { got, _, e := moves.Simple(samples.Trefoil()); return got, e },
	}
	for _, m := range []api.Move{curl(0, 0), curl(1, 3), uncurl(5), push(along(2), back(1), true), pull(2, 3), slide(faceOf(d, 1, 2, 3))} {
		asks = append(asks, func() (api.Diagram, api.Errno) { return moves.Do(d, m) })
	}
	for i, ask := range asks {
		was := samples.Beside(d, samples.With(0))
		if !samples.Apart(api.Cross{A: 99}, func() [][]api.Cross {
			got, e := ask()
			if e != api.OK || len(got.Crosses) == 0 {
				t.Error(i, got, e)
			}
			return [][]api.Cross{got.Crosses}
		}) || !samples.Alike(d, was) {
			t.Error(i, "memory is shared")
		}
	}
	if !samples.Apart(curl(99, 99), func() [][]api.Move {
		_, done, _ := moves.Simple(d)
		return [][]api.Move{done}
	}) {
		t.Error("moves of Simple are shared")
	}
}

// What holds everywhere: a diagram that stays as it is, is told anew.
func TestCopied(t *testing.T) {
	d := samples.Trefoil()
	row, _, _ := moves.Row(d, nil)
	simple, _, _ := moves.Simple(d)
	row.Crosses[0].A, simple.Crosses[1].A = 88, 99
	if !samples.Alike(d, samples.Trefoil()) || simple.Crosses[0].A == 88 || row.Crosses[1].A == 99 {
		t.Error(d, row, simple)
	}
}
