package code_test

import (
	"math"
	"slices"
	"testing"

	"knotwork/api"
	"knotwork/code"
	"knotwork/samples"
)

// read: the diagram of a text, which must be one.
func read(t *testing.T, s string) api.Diagram {
	t.Helper()
	d, e := code.Read(s)
	if e != api.OK {
		t.Fatalf("%q: %v", s, e)
	}
	return d
}

// of: a diagram of that many loops, and these crossings.
func of(loops int, crosses ...api.Cross) api.Diagram {
	return api.Diagram{Crosses: crosses, Loops: loops}
}

// same: are they the same, number by number?
func same(a, b api.Diagram) bool {
	return a.Loops == b.Loops && slices.Equal(a.Crosses, b.Crosses)
}

// named: a diagram with words that tell what it is.
type named struct {
	what string
	d    api.Diagram
}

// trefoilWith: chapter 2's, after something was done to it.
func trefoilWith(change func(c []api.Cross)) api.Diagram {
	d := samples.Trefoil()
	change(d.Crosses)
	return d
}

// wrongOnes: diagrams that may not be.
func wrongOnes() []named {
	return []named{
		{"neither crossing nor loop", of(0)},
		{"an empty list of crossings", api.Diagram{Crosses: []api.Cross{}}},
		{"one crossing too many", samples.Chain(api.MaxCross+1, true)},
		{"far too many crossings", samples.Chain(1000, false)},
		{"one loop too many", of(api.MaxLoops + 1)},
		{"one loop too many beside crossings", api.Diagram{Crosses: samples.Trefoil().Crosses, Loops: api.MaxLoops + 1}},
		{"the most loops of all", of(math.MaxInt)},
		{"fewer loops than 0", of(-1)},
		{"fewer loops than 0 beside crossings", api.Diagram{Crosses: samples.Trefoil().Crosses, Loops: -1}},
		{"as many loops below 0 as crossings", api.Diagram{Crosses: samples.Trefoil().Crosses, Loops: -3}},
		{"the fewest loops of all", of(math.MinInt)},
		{"a crossing of nothing", of(1, api.Cross{})},
		{"an arc 0", trefoilWith(func(c []api.Cross) { c[0].A = 0 })},
		{"an arc below 0", trefoilWith(func(c []api.Cross) { c[1].B = -6 })},
		{"an arc one too great", trefoilWith(func(c []api.Cross) { c[2].C = 7 })},
		{"all arcs one too great", of(0, api.Cross{A: 2, B: 3, C: 3, D: 2})},
		{"all arcs one too small", of(0, api.Cross{A: 0, B: 1, C: 1, D: 0})},
		{"the greatest number of all", trefoilWith(func(c []api.Cross) { c[0].D = math.MaxInt })},
		{"the least number of all", trefoilWith(func(c []api.Cross) { c[2].D = math.MinInt })},
		{"an arc once, and one three times", trefoilWith(func(c []api.Cross) { c[0].A = 2 })},
		{"an arc once, and one three times, going out", trefoilWith(func(c []api.Cross) { c[2].D = 6 })},
		{"an arc four times", of(0, api.Cross{A: 1, B: 1, C: 1, D: 1})},
		{"arcs twice where strands come in, or go out", of(0, api.Cross{A: 1, B: 1, C: 2, D: 2})},
		{"the same, with Plus", of(0, api.Cross{A: 1, B: 2, C: 2, D: 1, Plus: true})},
		{"Plus is turned at one crossing", trefoilWith(func(c []api.Cross) { c[1].Plus = true })},
	}
}

// rightOnes: diagrams that may be, edges among them.
func rightOnes() []named {
	return []named{
		{"one loop", of(1)},
		{"one loop, an empty list of crossings", api.Diagram{Crosses: []api.Cross{}, Loops: 1}},
		{"as many loops as may be", of(api.MaxLoops)},
		{"a curl that is not Plus", of(0, api.Cross{A: 1, B: 2, C: 2, D: 1})},
		{"a curl that is Plus", of(0, api.Cross{A: 1, B: 1, C: 2, D: 2, Plus: true})},
		{"two rings that cross once", of(0, api.Cross{A: 1, B: 2, C: 1, D: 2})},
		{"the trefoil", samples.Trefoil()},
		{"as many crossings as may be", samples.Chain(api.MaxCross, true)},
		{"as many crossings and loops as may be", api.Diagram{Crosses: samples.Chain(api.MaxCross, false).Crosses, Loops: api.MaxLoops}},
		{"several pieces", samples.Beside(samples.Trefoil(), samples.Chain(2, true))},
	}
}

// drawnOnes: many diagrams that may be: planar and not, of one piece and of several, with loops and without.
func drawnOnes() []api.Diagram {
	die := samples.Die(2)
	var l []api.Diagram
	for i := range 400 {
		d := samples.Woven(&die, 12)
		if i%2 == 1 {
			d = samples.Knotted(&die, 1+die.Below(6))
		}
		if i%3 == 0 && len(d.Crosses) <= 10 {
			d = samples.Beside(samples.Knotted(&die, 1+die.Below(3)), d)
		}
		if i%5 == 0 {
			d.Loops += die.Below(3)
		}
		l = append(l, d)
	}
	return l
}
