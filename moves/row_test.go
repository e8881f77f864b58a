package moves_test

import (
	"slices"
	"testing"

	"knotwork/api"
	"knotwork/moves"
	"knotwork/samples"
)

// rowByWords: moves, one behind the other, of a diagram that lies on a sphere.
func rowByWords(d api.Diagram, l []api.Move) (api.Diagram, int, api.Errno) {
	for i, m := range l {
		next, e := doByWords(d, m)
		if e != api.OK {
			return d, i, e
		}
		d = next
	}
	return d, len(l), api.OK
}

// drawnMove: one of any kind, at something that may be there.
func drawnMove(die *samples.Die, d api.Diagram) api.Move {
	n := len(d.Crosses)
	faces := facesOf(d)
	m := api.Move{Kind: 1 + die.Below(5), At: die.Below(2*n + 2), By: die.Below(4), Over: die.Below(2) == 0}
	if m.Kind == api.Push && len(faces) > 0 {
		ring := faces[die.Below(len(faces))]
		m.U, m.V = ring[die.Below(len(ring))], ring[die.Below(len(ring))]
	}
	return m
}

// P5.6: rows of drawn moves, done as far as they can be.
func TestRow(t *testing.T) {
	die := samples.Die(41)
	count, stopped := map[api.Errno]int{}, map[int]int{}
	for _, d := range samples.FlatOnes() {
		var l []api.Move
		at := d
		for range die.Below(12) {
			m := drawnMove(&die, at)
			if next, e := doByWords(at, m); e == api.OK {
				at = next
			} else if die.Below(4) > 0 {
				continue // most of those that are refused are left out
			}
			l = append(l, m)
		}
		want, steps, why := rowByWords(d, l)
		got, done, e := moves.Row(d, l)
		if e != why || done != steps || !samples.Alike(got, want) {
			t.Fatal(d, l, got, done, e, "wanted:", want, steps, why)
		}
		count[e]++
		if e != api.OK {
			stopped[done]++
		}
	}
	eachAnswer(t, count, 20, api.OK, api.ErrRange, api.ErrNone)
	if stopped[0] < 10 || stopped[1] < 5 || stopped[2] < 5 {
		t.Error("too few were refused on the way:", stopped)
	}
}

// P5.6: by hand: no moves, several, and ones that are refused on the way: the diagram then and the number are told with the error.
func TestRowByHand(t *testing.T) {
	trefoil := "X-[1,4,2,5] X-[3,6,4,1] X-[5,2,6,3]"
	curled := trefoil[:12] + "X-[8,6,4,1] X-[5,2,6,3] X-[7,3,8,7]"
	for _, x := range []struct {
		what string
		d    string
		l    []api.Move
		want string
		done int
		e    api.Errno
	}{
		{"none", trefoil, nil, trefoil, 0, api.OK},
		{"none, an empty list", trefoil, []api.Move{}, trefoil, 0, api.OK},
		{"none at a loop", "O", nil, "O", 0, api.OK},
		{"one", trefoil, []api.Move{curl(3, 2)}, curled, 1, api.OK},
		{"two", trefoil, []api.Move{curl(3, 2), uncurl(3)}, trefoil, 2, api.OK},
		{"the first is refused", trefoil, []api.Move{uncurl(3), curl(3, 2)}, trefoil, 0, api.ErrRange},
		{"the second is refused", trefoil, []api.Move{curl(3, 2), uncurl(0), uncurl(3)}, curled, 1, api.ErrNone},
		{"the last is refused", trefoil, []api.Move{curl(3, 2), uncurl(3), slide(0)}, trefoil, 2, api.ErrNone},
		{"a move of no kind", trefoil, []api.Move{curl(3, 2), {Kind: 9}}, curled, 1, api.ErrKind},
		{"several kinds", "O", []api.Move{curl(0, 0), push(along(2), back(1), true), pull(1, 2), uncurl(0)}, "O", 4, api.OK},
	} {
		got, done, e := moves.Row(samples.OfText(x.d), x.l)
		if show(got) != x.want || done != x.done || e != x.e {
			t.Errorf("%s: %q, %d, %v; wanted: %q, %d, %v", x.what, show(got), done, e, x.want, x.done, x.e)
		}
	}
}

// P5.6: a move that there is no room for: it is told how far the row came; ErrSize of a row that is too long tells of nothing.
func TestRowSize(t *testing.T) {
	there, back := curl(1, 3), uncurl(3)
	pairs := slices.Repeat([]api.Move{there, back}, 100)
	for _, x := range []struct {
		what  string
		d     api.Diagram
		l     []api.Move
		cross int
		done  int
		want  api.Errno
	}{
		{"one fewer than may be", samples.Trefoil(), pairs[:199], 4, 199, api.OK},
		{"as many as may be", samples.Trefoil(), pairs, 3, 200, api.OK},
		{"as many as may be, the first one is refused", samples.Trefoil(), slices.Concat([]api.Move{back}, pairs[:199]), 3, 0, api.ErrRange},
		{"as many as may be, the last one is refused", samples.Trefoil(), slices.Concat(pairs[:199], []api.Move{uncurl(4)}), 4, 199, api.ErrRange},
		{"one more", samples.Trefoil(), slices.Concat(pairs, []api.Move{there}), 0, 0, api.ErrSize},
		{"one more, of moves that are none", samples.Trefoil(), make([]api.Move, 201), 0, 0, api.ErrSize},
		{"far more", samples.With(1), make([]api.Move, 100000), 0, 0, api.ErrSize},
		{"curls up to the last crossing", samples.With(1), append([]api.Move{curl(0, 1)}, slices.Repeat([]api.Move{there}, 15)...), 16, 16, api.OK},
		{"curls beyond the last crossing", samples.With(1), append([]api.Move{curl(0, 1)}, slices.Repeat([]api.Move{there}, 30)...), 16, 16, api.ErrSize},
	} {
		got, done, e := moves.Row(x.d, x.l)
		if len(got.Crosses) != x.cross || done != x.done || e != x.want {
			t.Error(x.what, got, done, e, "wanted:", x.cross, x.done, x.want)
		}
		if len(x.l) > api.MaxMoves && !refused(got, e, api.ErrSize) {
			t.Error(x.what, got, e)
		}
	}
}

// P5.6: what may not be, or lies on no sphere, is refused ahead of all, and nothing is told of it: whether there are moves or none, right ones or wrong ones, and too many of them.
func TestRowState(t *testing.T) {
	for _, d := range wrongOnes() {
		for _, l := range [][]api.Move{nil, {curl(1, 0)}, {curl(0, 0), uncurl(0)}, {{Kind: 9}}, make([]api.Move, 200), make([]api.Move, 201), make([]api.Move, 1000)} {
			if got, done, e := moves.Row(d, l); !refused(got, e, api.ErrState) || done != 0 {
				t.Error(d, len(l), got, done, e)
			}
		}
	}
}
