package moves_test

import (
	"slices"
	"testing"

	"knotwork/api"
	"knotwork/moves"
	"knotwork/samples"
)

// simple: is a diagram simplified as the chapter's words say? The moves are told; done one behind the other, they lead there.
func simple(t *testing.T, d api.Diagram) []api.Move {
	t.Helper()
	want, l := simpleByWords(d)
	got, done, e := moves.Simple(d)
	if e != api.OK || !samples.Alike(got, want) || !slices.Equal(done, l) {
		t.Fatal(d, got, done, e, "wanted:", want, l)
	}
	if led, steps, e := moves.Row(d, done); e != api.OK || steps != len(done) || !samples.Alike(led, got) {
		t.Fatal(d, got, done, "the row leads to:", led, steps, e)
	}
	return done
}

// P5.7: many diagrams, at which nothing, one move or many can be done.
func TestSimple(t *testing.T) {
	die := samples.Die(51)
	count := map[int]int{}
	kinds := map[int]int{}
	for _, d := range samples.FlatOnes() {
		for range 2 {
			done := simple(t, d)
			count[min(len(done), 3)]++
			for _, m := range done {
				kinds[m.Kind]++
			}
			d = samples.Renamed(&die, d)
		}
	}
	if count[0] < 20 || count[1] < 50 || count[2] < 50 || count[3] < 50 || kinds[api.Uncurl] < 50 || kinds[api.Pull] < 50 || len(kinds) != 2 {
		t.Error("too few:", count, kinds)
	}
}

// P5.7: by hand: an Uncurl is ahead of a Pull, a lower crossing ahead of a higher one; what comes of it is looked at from the beginning again.
func TestSimpleByHand(t *testing.T) {
	for _, x := range []struct {
		what string
		d    api.Diagram
		want string
		done []api.Move
	}{
		{"nothing", samples.Trefoil(), "X-[1,4,2,5] X-[3,6,4,1] X-[5,2,6,3]", nil},
		{"loops", samples.With(2), "O O", nil},
		{"one Uncurl", samples.OfText("X-[1,2,2,1]"), "O", []api.Move{uncurl(0)}},
		{"one Pull", samples.OfText("X-[1,3,2,4] X+[2,3,1,4]"), "O O", []api.Move{pull(0, 1)}},
		{"the first of two curls", samples.OfText("X-[1,2,2,1] X-[3,4,4,3]"), "O O", []api.Move{uncurl(0), uncurl(0)}},
		{"a curl behind what can be pulled", samples.Weave(4, []int{1, -1, 3}), "O O O", []api.Move{uncurl(2), pull(0, 1)}},
		{"the first of several pairs", samples.Weave(2, []int{1, 1, -1, -1}), "O O", []api.Move{pull(0, 3), pull(0, 1)}},
		{"both kinds can be done", samples.OfText("X+[4,2,1,1] X-[3,2,4,3]"), "O", []api.Move{uncurl(0), uncurl(0)}},
		{"a Pull that leaves a curl", samples.Weave(2, []int{1, 1, -1}), "O", []api.Move{pull(0, 2), uncurl(0)}},
	} {
		got, done, e := moves.Simple(x.d)
		if show(got) != x.want || !slices.Equal(done, x.done) || e != api.OK {
			t.Errorf("%s: %q, %v, %v; wanted: %q, %v", x.what, show(got), done, e, x.want, x.done)
		}
	}
}

// P5.7: what would make too many loops cannot be done: the next move is taken that can be, if there is one.
func TestSimpleSize(t *testing.T) {
	for _, x := range []struct {
		what  string
		d     api.Diagram
		loops int
		done  []api.Move
	}{
		{"a ring, room for a loop", samples.OfText("X-[1,2,2,1]"), 15, []api.Move{uncurl(0)}},
		{"a ring, no room", samples.OfText("X-[1,2,2,1]"), 16, nil},
		{"two rings, room for one loop", samples.OfText("X-[1,2,2,1] X-[3,4,4,3]"), 15, []api.Move{uncurl(0)}},
		{"a ring ahead of a strand", samples.OfText("X-[1,2,2,1] X-[3,6,4,3] X-[4,5,5,6]"), 16, []api.Move{uncurl(1)}},
		{"a ring ahead of a pair", samples.Beside(samples.OfText("X-[1,2,2,1]"), samples.Weave(2, []int{1, -1, 1, 1})), 16, []api.Move{pull(1, 2)}},
		{"two rings crossed, room for one loop", samples.Weave(2, []int{1, -1}), 15, nil},
		{"two rings crossed, room for two", samples.Weave(2, []int{1, -1}), 14, []api.Move{pull(0, 1)}},
	} {
		x.d.Loops = x.loops
		if done := simple(t, x.d); !slices.Equal(done, x.done) {
			t.Error(x.what, done, "wanted:", x.done)
		}
	}
}

// P5.7: as many crossings as may be, all of which can be taken out.
func TestSimpleOfMany(t *testing.T) {
	die := samples.Die(52)
	for range 20 {
		d := samples.With(1)
		for len(d.Crosses) < api.MaxCross {
			d = curledSomewhere(t, &die, d)
		}
		if done := simple(t, samples.Renamed(&die, d)); len(done) != api.MaxCross {
			t.Error(d, done)
		}
	}
	if done := simple(t, samples.Weave(2, slices.Repeat([]int{1, -1}, 8))); len(done) != 8 {
		t.Error(done)
	}
}

// P5.7: what may not be, or lies on no sphere.
func TestSimpleState(t *testing.T) {
	for _, d := range wrongOnes() {
		if got, done, e := moves.Simple(d); !refused(got, e, api.ErrState) || len(done) != 0 {
			t.Error(d, got, done, e)
		}
	}
}
