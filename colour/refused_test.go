package colour_test

import (
	"testing"

	"knotwork/api"
	"knotwork/colour"
	"knotwork/moved"
	"knotwork/samples"
)

// allRefuse: do all calls answer that error and nothing else, if nothing else is wrong?
func allRefuse(t *testing.T, what string, d api.Diagram, want api.Errno) {
	t.Helper()
	if l, e := colour.Overs(d); len(l) != 0 || e != want {
		t.Error("Overs:", what, d, l, e, "wanted:", want)
	}
	for _, p := range []int{2, 3, 97} {
		if n, e := colour.Fox(d, p); n != 0 || e != want {
			t.Error("Fox:", what, d, p, n, e, "wanted:", want)
		}
	}
	for _, q := range [][][]int{trivial(1), dihedral(3), tetrahedral()} {
		if n, e := colour.Count(d, q); n != 0 || e != want {
			t.Error("Count:", what, d, q, n, e, "wanted:", want)
		}
	}
}

// The chapter's opening: what may not be is refused, however many crossings it has.
func TestState(t *testing.T) {
	for _, x := range samples.WrongOnes() {
		allRefuse(t, x.What, x.Diagram, api.ErrState)
		if len(x.Crosses) > 0 || x.Loops != 0 {
			allRefuse(t, x.What+", beside what lies on no sphere", samples.Beside(samples.OfText("X-[1,2,1,2]"), x.Diagram), api.ErrState)
		}
	}
}

// The chapter's opening: what lies on no sphere is refused behind that, and ahead of what Count finds too great.
func TestPlane(t *testing.T) {
	great := 0
	for _, d := range samples.TwistedOnes() {
		allRefuse(t, "on no sphere", d, api.ErrPlane)
		if len(d.Crosses) > 10 || d.Loops > 4 {
			great++
		}
	}
	if great < 20 {
		t.Error("too few great ones:", great)
	}
}

// What holds everywhere: what is handed in stays as it is, spare room too.
func TestNothingChanges(t *testing.T) {
	ones := append(samples.EveryOne()[:40], samples.Trefoil(), samples.OfText("X-[1,2,2,1] O"), samples.With(2), samples.OfText("X-[1,2,1,2]"), samples.With(0, api.Cross{A: 9}), samples.With(0))
	for _, d := range ones {
		if !samples.Unchanged(d, func(given api.Diagram) {
			colour.Overs(given)
			colour.Fox(given, 3)
			colour.Count(given, tetrahedral())
		}) {
			t.Error(d, "was changed")
		}
	}
	for _, q := range [][][]int{tetrahedral(), turning(), {{0, 1}, {1, 1}}, {{0, 7}, {1}}} {
		room := samples.WithRoom(q, []int{77})
		var rows, want [][]int
		for i := range room {
			room[i] = samples.WithRoom(q[i], 88)
			rows, want = append(rows, room[i][:cap(room[i])]), append(want, append([]int{}, room[i][:cap(room[i])]...))
		}
		colour.Count(samples.Trefoil(), room)
		for i := range rows {
			for j := range rows[i] {
				if rows[i][j] != want[i][j] || &room[i][0] != &rows[i][0] {
					t.Error(q, "was changed")
				}
			}
		}
		for _, row := range room[len(room):cap(room)] {
			if len(row) > 1 || len(row) == 1 && row[0] != 77 {
				t.Error(q, "spare room was changed")
			}
		}
	}
}

// What holds everywhere: an answer is new memory, spare room too.
func TestMemory(t *testing.T) {
	d := moved.RingsUpon(3)
	if !samples.Apart(99, func() [][]int {
		a, _ := colour.Overs(d)
		b, _ := colour.Overs(d)
		return [][]int{a, b}
	}) {
		t.Error("memory is shared")
	}
}
