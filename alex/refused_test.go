package alex_test

import (
	"slices"
	"testing"

	"knotwork/alex"
	"knotwork/api"
	"knotwork/moved"
	"knotwork/samples"
)

// allRefuse: do all calls answer that error and nothing else?
func allRefuse(t *testing.T, what string, d api.Diagram, want api.Errno) {
	t.Helper()
	if m, e := alex.Table(d); len(m) != 0 || e != want {
		t.Error("Table:", what, d, m, e, "wanted:", want)
	}
	if a, e := alex.Alexander(d); len(a) != 0 || e != want {
		t.Error("Alexander:", what, d, a, e, "wanted:", want)
	}
	if n, e := alex.Determinant(d); n != 0 || e != want {
		t.Error("Determinant:", what, d, n, e, "wanted:", want)
	}
}

// The chapter's opening: what may not be, and behind that what lies on no sphere, is refused ahead of what has too many crossings.
func TestStateAndPlane(t *testing.T) {
	for _, x := range samples.RefusedOnes(most) {
		allRefuse(t, x.What, x.Diagram, x.Want)
	}
}

// The chapter's opening: more than 10 crossings are too many, however few parts and whatever loops there are; 10 are not.
func TestSize(t *testing.T) {
	for _, x := range moved.Beyond(most) {
		allRefuse(t, x.What, x.Diagram, api.ErrSize)
	}
	for by := range 4 {
		d := moved.Curls(most, by)
		if a, n := alexander(t, d), determinant(t, d); len(a) != 1 || a[0] != (api.Term{Coef: 1}) || n != 1 {
			t.Error(d, a, n)
		}
	}
}

// What holds everywhere: what is handed in stays as it is, spare room too.
func TestNothingChanges(t *testing.T) {
	ones := append(samples.EveryOne()[:40], samples.Trefoil(), samples.OfText("X-[1,2,2,1] O"), samples.With(1), samples.With(2), samples.OfText("X-[1,2,1,2]"), samples.With(0, api.Cross{A: 9}), samples.Chain(11, true))
	for _, d := range ones {
		if !samples.Unchanged(d, func(given api.Diagram) {
			alex.Table(given)
			alex.Alexander(given)
			alex.Determinant(given)
		}) {
			t.Error(d, "was changed")
		}
	}
}

// What holds everywhere: an answer is new memory, spare room too: each place of a table, and each polynomial.
func TestMemory(t *testing.T) {
	for _, d := range []api.Diagram{samples.Trefoil(), samples.Weave(3, []int{1, -2, 1, -2, -2}), moved.RingsUpon(2), moved.Curls(3, 1), samples.With(1)} {
		if !samples.Apart(api.Term{Exp: 99, Coef: 99}, func() [][]api.Term {
			m, _ := alex.Table(d)
			a, _ := alex.Alexander(d)
			b, _ := alex.Alexander(d)
			return append(slices.Concat(m...), a, b)
		}) {
			t.Error(d, "memory is shared")
		}
	}
}

// What holds everywhere: no row of a table shares its places with another one, spare room neither; nor do two tables share rows.
func TestMemoryOfRows(t *testing.T) {
	wrong := []api.Term{{Exp: 99, Coef: 99}}
	for _, d := range []api.Diagram{samples.Trefoil(), moved.RingsUpon(2), moved.Curls(3, 1)} {
		want, first := tableOf(t, d), tableOf(t, d)
		for k := range want {
			got := tableOf(t, d)
			row := got[k][:cap(got[k])]
			for i := range row {
				row[i] = wrong
			}
			got[k] = want[k]
			if !alike(got, want) || !alike(first, want) {
				t.Error(d, "row", k, "shares memory")
			}
		}
		clear(first[:cap(first)])
		if !alike(tableOf(t, d), want) {
			t.Error(d, "a table is kept")
		}
	}
}

// alike: have both tables the same places?
func alike(a, b table) bool {
	return slices.EqualFunc(a, b, func(x, y [][]api.Term) bool { return slices.EqualFunc(x, y, slices.Equal[[]api.Term]) })
}
