package alex_test

import (
	"slices"
	"testing"

	"knotwork/alex"
	"knotwork/api"
	"knotwork/moved"
	"knotwork/samples"
)

// allRefuse: do all calls answer that error and nothing else?
func allRefuse(t *testing.T, what string, d api.Diagram, want api.Errno) {
	t.Helper()
	if m, e := alex.Table(d); len(m) != 0 || e != want {
		t.Error("Table:", what, d, m, e, "wanted:", want)
	}
	if a, e := alex.Alexander(d); len(a) != 0 || e != want {
		t.Error("Alexander:", what, d, a, e, "wanted:", want)
	}
	if n, e := alex.Determinant(d); n != 0 || e != want {
		t.Error("Determinant:", what, d, n, e, "wanted:", want)
	}
}

// The chapter's opening: what may not be is refused, ahead of what lies on no sphere or has too many crossings.
func TestState(t *testing.T) {
	for _, x := range samples.WrongOnes() {
		allRefuse(t, x.What, x.Diagram, api.ErrState)
		if len(x.Crosses) > 0 || x.Loops != 0 {
			allRefuse(t, x.What+", beside what lies on no sphere", samples.Beside(samples.OfText("X-[1,2,1,2]"), x.Diagram), api.ErrState)
			allRefuse(t, x.What+", beside many crossings", samples.Beside(samples.Chain(11, true), x.Diagram), api.ErrState)
		}
	}
}

// The chapter's opening: what lies on no sphere is refused behind that, and ahead of what has too many crossings.
func TestPlane(t *testing.T) {
	great, small := 0, 0
	for _, d := range samples.TwistedOnes() {
		allRefuse(t, "on no sphere", d, api.ErrPlane)
		if len(d.Crosses) > most {
			great++
		} else {
			small++
		}
	}
	if great < 20 || small < 20 {
		t.Error("too few:", great, small)
	}
}

// The chapter's opening: more than 10 crossings are too many, however few parts and whatever loops there are; 10 are not.
func TestSize(t *testing.T) {
	for n := most + 1; n <= api.MaxCross; n++ {
		allRefuse(t, "a chain", samples.Chain(n, n%2 == 0), api.ErrSize)
		allRefuse(t, "curls", moved.Curls(n, n%4), api.ErrSize)
		allRefuse(t, "a chain beside loops", samples.Beside(samples.Chain(n, true), samples.With(2)), api.ErrSize)
	}
	great := 0
	for _, d := range moved.Ones() {
		if len(d.Crosses) > most {
			great++
			allRefuse(t, "drawn", d, api.ErrSize)
		}
	}
	if great < 20 {
		t.Error("too few:", great)
	}
	for by := range 4 {
		d := moved.Curls(most, by)
		if a, n := alexander(t, d), determinant(t, d); len(a) != 1 || a[0] != (api.Term{Coef: 1}) || n != 1 {
			t.Error(d, a, n)
		}
	}
}

// What holds everywhere: what is handed in stays as it is, spare room too.
func TestNothingChanges(t *testing.T) {
	ones := append(samples.EveryOne()[:40], samples.Trefoil(), samples.OfText("X-[1,2,2,1] O"), samples.With(1), samples.With(2), samples.OfText("X-[1,2,1,2]"), samples.With(0, api.Cross{A: 9}), samples.Chain(11, true))
	for _, d := range ones {
		if !samples.Unchanged(d, func(given api.Diagram) {
			alex.Table(given)
			alex.Alexander(given)
			alex.Determinant(given)
		}) {
			t.Error(d, "was changed")
		}
	}
}

// What holds everywhere: an answer is new memory, spare room too: each place of a table, and each polynomial.
func TestMemory(t *testing.T) {
	for _, d := range []api.Diagram{samples.Trefoil(), samples.Weave(3, []int{1, -2, 1, -2, -2}), moved.RingsUpon(2), moved.Curls(3, 1), samples.With(1)} {
		if !samples.Apart(api.Term{Exp: 99, Coef: 99}, func() [][]api.Term {
			m, _ := alex.Table(d)
			a, _ := alex.Alexander(d)
			b, _ := alex.Alexander(d)
			return append(slices.Concat(m...), a, b)
		}) {
			t.Error(d, "memory is shared")
		}
	}
}

// What holds everywhere: no row of a table shares its places with another one, spare room neither; nor do two tables share rows.
func TestMemoryOfRows(t *testing.T) {
	wrong := []api.Term{{Exp: 99, Coef: 99}}
	for _, d := range []api.Diagram{samples.Trefoil(), moved.RingsUpon(2), moved.Curls(3, 1)} {
		want, first := tableOf(t, d), tableOf(t, d)
		for k := range want {
			got := tableOf(t, d)
			row := got[k][:cap(got[k])]
			for i := range row {
				row[i] = wrong
			}
			got[k] = want[k]
			if !alike(got, want) || !alike(first, want) {
				t.Error(d, "row", k, "shares memory")
			}
		}
		clear(first[:cap(first)])
		if !alike(tableOf(t, d), want) {
			t.Error(d, "a table is kept")
		}
	}
}

// alike: have both tables the same places?
func alike(a, b table) bool {
	return slices.EqualFunc(a, b, func(x, y [][]api.Term) bool { return slices.EqualFunc(x, y, slices.Equal[[]api.Term]) })
}
