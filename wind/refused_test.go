package wind_test

import (
	"testing"

	"knotwork/api"
	"knotwork/samples"
	"knotwork/wind"
)

// allRefuse: do all calls answer that error and nothing else?
func allRefuse(t *testing.T, what string, d api.Diagram, want api.Errno) {
	t.Helper()
	if n, e := wind.Writhe(d); n != 0 || e != want {
		t.Error("Writhe:", what, d, n, e, "wanted:", want)
	}
	if table, e := wind.Linking(d); len(table) != 0 || e != want {
		t.Error("Linking:", what, d, table, e, "wanted:", want)
	}
	if rings, e := wind.Circles(d); len(rings) != 0 || e != want {
		t.Error("Circles:", what, d, rings, e, "wanted:", want)
	}
	if n, e := wind.Genus(d); n != 0 || e != want {
		t.Error("Genus:", what, d, n, e, "wanted:", want)
	}
}

// The chapter's opening: what may not be is refused ahead of all, whatever pieces and loops it has.
func TestState(t *testing.T) {
	for _, x := range samples.WrongOnes() {
		allRefuse(t, x.What, x.Diagram, api.ErrState)
		allRefuse(t, x.What+", beside a knot", beside(x.Diagram, samples.Trefoil()), api.ErrState)
		// What lies on no sphere makes it no better.
		allRefuse(t, x.What+", beside what lies on no sphere", beside(x.Diagram, samples.OfText("X-[1,2,1,2]")), api.ErrState)
	}
}

// beside a wrong diagram: another one, which does not mend it.
func beside(wrong, d api.Diagram) api.Diagram {
	if len(wrong.Crosses) == 0 && wrong.Loops == 0 {
		return wrong
	}
	return samples.Beside(d, wrong)
}

// The chapter's opening: what lies on no sphere is refused behind that, and ahead of what Genus refuses.
func TestPlane(t *testing.T) {
	twisted := append(samples.TwistedOnes(), samples.OfText("X-[1,2,1,2]"), samples.OfText("X+[3,2,4,1] X+[4,3,1,2]"))
	pieces, loops := 0, 0
	for _, d := range twisted {
		allRefuse(t, "on no sphere", d, api.ErrPlane)
		if d.Loops > 0 {
			loops++
		}
		if len(d.Crosses) <= api.MaxCross-3 {
			pieces++
			allRefuse(t, "beside a knot", samples.Beside(d, samples.Trefoil()), api.ErrPlane)
			allRefuse(t, "behind a knot", samples.Beside(samples.Trefoil(), d), api.ErrPlane)
		}
	}
	if pieces < 50 || loops < 20 {
		t.Error("too few of one kind:", pieces, loops)
	}
}

// The chapter's opening: as many crossings and loops as may be, and one more of each.
func TestSizes(t *testing.T) {
	for _, crosses := range []int{0, 1, api.MaxCross - 1, api.MaxCross, api.MaxCross + 1} {
		for _, loops := range []int{-1, 0, 1, api.MaxLoops, api.MaxLoops + 1} {
			d := samples.Beside(samples.Chain(crosses, true), samples.With(loops))
			if crosses == 0 {
				d = samples.With(loops)
			}
			if crosses > api.MaxCross || loops < 0 || loops > api.MaxLoops || crosses+loops == 0 {
				allRefuse(t, "a size", d, api.ErrState)
				continue
			}
			rings := min(2*crosses, 2)
			if got := circles(t, d); writhe(t, d) != crosses || len(linking(t, d)) != len(strands(d)) || len(got) != rings {
				t.Error(crosses, loops, writhe(t, d), linking(t, d), got)
			}
		}
	}
}
