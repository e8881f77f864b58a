package sign_test

import (
	"math"
	"testing"

	"knotwork/api"
	"knotwork/gauss"
	"knotwork/moved"
	"knotwork/samples"
	"knotwork/sign"
)

// allRefuse: do all calls answer that error and nothing else?
func allRefuse(t *testing.T, what string, d api.Diagram, want api.Errno) {
	t.Helper()
	if l, e := sign.Shades(d); len(l) != 0 || e != want {
		t.Error("Shades:", what, d, l, e, "wanted:", want)
	}
	for shade := range 2 {
		if table, correction, e := sign.Goeritz(d, shade); len(table) != 0 || correction != 0 || e != want {
			t.Error("Goeritz:", what, d, shade, table, correction, e, "wanted:", want)
		}
	}
	if n, e := sign.Signature(d); n != 0 || e != want {
		t.Error("Signature:", what, d, n, e, "wanted:", want)
	}
	if n, e := sign.Arf(d); n != 0 || e != want {
		t.Error("Arf:", what, d, n, e, "wanted:", want)
	}
	outOfRange(t, what, d)
}

// outOfRange: P9.2: shades that there are not are refused ahead of all else.
func outOfRange(t *testing.T, what string, d api.Diagram) {
	t.Helper()
	for _, shade := range []int{-1, 2, 3, math.MinInt, math.MaxInt} {
		if table, correction, e := sign.Goeritz(d, shade); len(table) != 0 || correction != 0 || e != api.ErrRange {
			t.Error("Goeritz:", what, d, shade, table, correction, e)
		}
	}
}

// The chapter's opening: what may not be is refused, ahead of what lies on no sphere, has more pieces, or loops.
func TestState(t *testing.T) {
	for _, x := range samples.WrongOnes() {
		allRefuse(t, x.What, x.Diagram, api.ErrState)
		if len(x.Crosses) > 0 || x.Loops != 0 {
			allRefuse(t, x.What+", behind what lies on no sphere", samples.Beside(samples.OfText("X-[1,2,1,2]"), x.Diagram), api.ErrState)
			allRefuse(t, x.What+", behind a knot", samples.Beside(samples.Trefoil(), x.Diagram), api.ErrState)
		}
	}
}

// The chapter's opening: what lies on no sphere is refused behind that, and ahead of what has more pieces, or loops, or parts.
func TestPlane(t *testing.T) {
	loops, knots, pieces := 0, 0, 0
	for _, d := range append(samples.TwistedOnes(), samples.OfText("X-[1,2,1,2]")) {
		allRefuse(t, "on no sphere", d, api.ErrPlane)
		if d.Loops > 0 {
			loops++
		}
		if moved.Knot(d) {
			knots++
		}
		if len(d.Crosses) <= api.MaxCross-3 {
			pieces++
			allRefuse(t, "behind a knot", samples.Beside(samples.Trefoil(), d), api.ErrPlane)
		}
	}
	if loops < 20 || knots < 10 || pieces < 50 {
		t.Error("too few of one kind:", loops, knots, pieces)
	}
}

// The chapter's opening: more pieces than one, or none, or loops are refused behind that, ahead of what has more parts.
func TestKind(t *testing.T) {
	for _, x := range []samples.Named{
		{What: "one loop", Diagram: samples.With(1)},
		{What: "as many loops as may be", Diagram: samples.With(api.MaxLoops)},
		{What: "a knot and a loop", Diagram: samples.Beside(samples.Trefoil(), samples.With(1))},
		{What: "linked rings and a loop", Diagram: samples.Beside(samples.Chain(2, true), samples.With(1))},
		{What: "as many crossings and loops as may be", Diagram: samples.Beside(samples.Chain(api.MaxCross, true), samples.With(api.MaxLoops))},
		{What: "two knots apart", Diagram: samples.Beside(samples.Trefoil(), samples.Trefoil())},
		{What: "a link and a knot apart", Diagram: samples.Beside(samples.Chain(2, false), samples.Trefoil())},
		{What: "two curls apart, and a loop", Diagram: samples.OfText("X+[4,4,1,1] X-[2,3,3,2] O")},
		{What: "a braid whose letters leave one strand alone", Diagram: samples.Weave(3, []int{1, 1, 1})},
		{What: "a braid of two pieces", Diagram: samples.Weave(4, []int{1, 3, 1, 3})},
	} {
		allRefuse(t, x.What, x.Diagram, api.ErrKind)
	}
	refused := 0
	for _, d := range moved.Ones() {
		if !single(d) {
			refused++
			allRefuse(t, "drawn", d, api.ErrKind)
		}
	}
	if refused < 100 {
		t.Error("too few:", refused)
	}
}

// P9.4: more parts than one have no Arf, but all else.
func TestKnot(t *testing.T) {
	count := map[int]int{}
	for _, d := range append(singles(), samples.Chain(api.MaxCross, true), moved.RingsUpon(1), moved.RingsUpon(8)) {
		outOfRange(t, "drawn", d)
		shades(t, d)
		signature(t, d)
		for shade := range 2 {
			goeritz(t, d, shade)
		}
		strands, _ := gauss.Strands(d)
		count[len(strands)]++
		want := api.OK
		if len(strands) > 1 {
			want = api.ErrKnot
		}
		if n, e := sign.Arf(d); e != want || e != api.OK && n != 0 {
			t.Error(d, n, e, "wanted:", want)
		}
	}
	for parts := 1; parts <= 3; parts++ {
		if count[parts] < 20 {
			t.Error("too few of", parts, "parts:", count)
		}
	}
}

// The chapter's opening: as many crossings as may be, and one more.
func TestSizes(t *testing.T) {
	for n := 1; n <= api.MaxCross+1; n++ {
		for by := range 4 {
			d := moved.Curls(min(n, api.MaxCross), by)
			if signature(t, d) != 0 || arf(t, d) != 0 {
				t.Error(n, by, signature(t, d), arf(t, d))
			}
		}
		d := samples.Chain(n, true)
		if n > api.MaxCross {
			allRefuse(t, "a size", d, api.ErrState)
		} else if got := signature(t, d); got != n-1 {
			t.Error(n, got)
		}
	}
}
