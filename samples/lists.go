package samples

import (
	"math"
	"slices"

	"knotwork/api"
	"knotwork/code"
)

// OfText: a text's diagram.
func OfText(s string) api.Diagram {
	d, e := code.Read(s)
	if e != api.OK {
		panic(e.Error() + ": " + s)
	}
	return d
}

// With: a diagram of that many loops, and these crossings.
func With(loops int, crosses ...api.Cross) api.Diagram {
	return api.Diagram{Crosses: crosses, Loops: loops}
}

// Alike: are they the same, number by number?
func Alike(a, b api.Diagram) bool {
	return a.Loops == b.Loops && slices.Equal(a.Crosses, b.Crosses)
}

// Named: a diagram with words that tell what it is.
type Named struct {
	What string
	api.Diagram
}

// trefoilWith: chapter 2's, after something was done to it.
func trefoilWith(change func(c []api.Cross)) api.Diagram {
	d := Trefoil()
	change(d.Crosses)
	return d
}

// WrongOnes: diagrams that may not be.
func WrongOnes() []Named {
	return []Named{
		{"neither crossing nor loop", With(0)},
		{"an empty list of crossings", api.Diagram{Crosses: []api.Cross{}}},
		{"one crossing too many", Chain(api.MaxCross+1, true)},
		{"far too many crossings", Chain(1000, false)},
		{"one loop too many", With(api.MaxLoops + 1)},
		{"one loop too many beside crossings", api.Diagram{Crosses: Trefoil().Crosses, Loops: api.MaxLoops + 1}},
		{"the most loops of all", With(math.MaxInt)},
		{"fewer loops than 0", With(-1)},
		{"fewer loops than 0 beside crossings", api.Diagram{Crosses: Trefoil().Crosses, Loops: -1}},
		{"as many loops below 0 as crossings", api.Diagram{Crosses: Trefoil().Crosses, Loops: -3}},
		{"the fewest loops of all", With(math.MinInt)},
		{"a crossing of nothing", With(1, api.Cross{})},
		{"an arc 0", trefoilWith(func(c []api.Cross) { c[0].A = 0 })},
		{"an arc below 0", trefoilWith(func(c []api.Cross) { c[1].B = -6 })},
		{"an arc one too great", trefoilWith(func(c []api.Cross) { c[2].C = 7 })},
		{"all arcs one too great", With(0, api.Cross{A: 2, B: 3, C: 3, D: 2})},
		{"all arcs one too small", With(0, api.Cross{A: 0, B: 1, C: 1, D: 0})},
		{"the greatest number of all", trefoilWith(func(c []api.Cross) { c[0].D = math.MaxInt })},
		{"the least number of all", trefoilWith(func(c []api.Cross) { c[2].D = math.MinInt })},
		{"an arc once, and one three times", trefoilWith(func(c []api.Cross) { c[0].A = 2 })},
		{"an arc once, and one three times, going out", trefoilWith(func(c []api.Cross) { c[2].D = 6 })},
		{"an arc four times", With(0, api.Cross{A: 1, B: 1, C: 1, D: 1})},
		{"arcs twice where strands come in, or go out", With(0, api.Cross{A: 1, B: 1, C: 2, D: 2})},
		{"the same, with Plus", With(0, api.Cross{A: 1, B: 2, C: 2, D: 1, Plus: true})},
		{"Plus is turned at one crossing", trefoilWith(func(c []api.Cross) { c[1].Plus = true })},
	}
}

// RightOnes: diagrams that may be, edges among them.
func RightOnes() []Named {
	return []Named{
		{"one loop", With(1)},
		{"one loop, an empty list of crossings", api.Diagram{Crosses: []api.Cross{}, Loops: 1}},
		{"as many loops as may be", With(api.MaxLoops)},
		{"a curl that is not Plus", With(0, api.Cross{A: 1, B: 2, C: 2, D: 1})},
		{"a curl that is Plus", With(0, api.Cross{A: 1, B: 1, C: 2, D: 2, Plus: true})},
		{"two rings that cross once", With(0, api.Cross{A: 1, B: 2, C: 1, D: 2})},
		{"the trefoil", Trefoil()},
		{"as many crossings as may be", Chain(api.MaxCross, true)},
		{"as many crossings and loops as may be", api.Diagram{Crosses: Chain(api.MaxCross, false).Crosses, Loops: api.MaxLoops}},
		{"several pieces", Beside(Trefoil(), Chain(2, true))},
	}
}

// EveryOne: all diagrams here that may be, and some drawn ones of as many crossings as may be.
func EveryOne() []api.Diagram {
	l := DrawnOnes()
	for _, x := range RightOnes() {
		l = append(l, x.Diagram)
	}
	die := Die(5)
	for range 20 {
		d := Knotted(&die, api.MaxCross)
		d.Loops = die.Below(api.MaxLoops + 1)
		l = append(l, d)
	}
	return l
}

// DrawnOnes: many diagrams that may be: planar and not, of one piece and of several, with loops and without.
func DrawnOnes() []api.Diagram {
	die := Die(2)
	var l []api.Diagram
	for i := range 400 {
		d := Woven(&die, 12)
		if i%2 == 1 {
			d = Knotted(&die, 1+die.Below(6))
		}
		if i%3 == 0 && len(d.Crosses) <= 10 {
			d = Beside(Knotted(&die, 1+die.Below(3)), d)
		}
		if i%5 == 0 {
			d.Loops += die.Below(3)
		}
		l = append(l, d)
	}
	return l
}

// FlatOnes: those of all diagrams here that lie on a sphere.
func FlatOnes() []api.Diagram {
	return slices.DeleteFunc(EveryOne(), func(d api.Diagram) bool { return !flat(d) })
}

// TwistedOnes: diagrams that may be, but lie on no sphere.
func TwistedOnes() []api.Diagram {
	return slices.DeleteFunc(EveryOne(), flat)
}

// Refused: a diagram that is refused, and by which error.
type Refused struct {
	Named
	Want api.Errno
}

// RefusedOnes: what layers refuse that take diagrams on a sphere of at most so many crossings: first of all what may not be, then what lies on no sphere; both beside what is refused behind them, too.
func RefusedOnes(most int) []Refused {
	var l []Refused
	add := func(what string, d api.Diagram, want api.Errno) {
		l = append(l, Refused{Named{what, d}, want})
	}
	for _, x := range WrongOnes() {
		add(x.What, x.Diagram, api.ErrState)
		if len(x.Crosses) > 0 || x.Loops != 0 {
			add(x.What+", behind what lies on no sphere", Beside(OfText("X-[1,2,1,2]"), x.Diagram), api.ErrState)
			add(x.What+", behind many crossings", Beside(Chain(most+1, true), x.Diagram), api.ErrState)
		}
	}
	great, small := 0, 0
	for _, d := range TwistedOnes() {
		add("on no sphere", d, api.ErrPlane)
		if len(d.Crosses) > most {
			great++
		} else {
			small++
		}
	}
	if great < 20 || small < 20 {
		panic("too few diagrams lie on no sphere")
	}
	return l
}

// flat: does it lie on a sphere?
func flat(d api.Diagram) bool {
	p, e := code.Planar(d)
	return p && e == api.OK
}
