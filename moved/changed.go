package moved

import (
	"slices"

	"knotwork/api"
	"knotwork/canon"
	"knotwork/gauss"
	"knotwork/samples"
)

// Knot: is it of one part?
func Knot(d api.Diagram) bool { return Parts(d) == 1 }

// Parts of a diagram: how many there are, loops too.
func Parts(d api.Diagram) int {
	strands, _ := gauss.Strands(d)
	return len(strands) + d.Loops
}

// Turned: the diagram, each part reversed or not.
func Turned(die *samples.Die, d api.Diagram) api.Diagram {
	strands, _ := gauss.Strands(d)
	for part := range strands {
		if die.Below(2) == 1 {
			d, _ = canon.Reverse(d, part)
		}
	}
	return d
}

// Backward: the diagram, all parts reversed.
func Backward(d api.Diagram) api.Diagram {
	strands, _ := gauss.Strands(d)
	for part := range strands {
		d, _ = canon.Reverse(d, part)
	}
	return d
}

// Mirrored: the mirror image of a diagram.
func Mirrored(d api.Diagram) api.Diagram {
	m, e := canon.Mirror(d)
	if e != api.OK {
		panic(e.Error())
	}
	return m
}

// Exchanged: the diagram, at one crossing the other strand above.
func Exchanged(d api.Diagram, cross int) api.Diagram {
	l := slices.Clone(d.Crosses)
	c := l[cross]
	if c.Plus {
		l[cross] = api.Cross{A: c.D, B: c.A, C: c.B, D: c.C}
	} else {
		l[cross] = api.Cross{A: c.B, B: c.C, C: c.D, D: c.A, Plus: true}
	}
	return api.Diagram{Crosses: l, Loops: d.Loops}
}

// Undone: the diagram without a crossing: who came in below goes out where the strand above went out, and the other way round.
func Undone(d api.Diagram, cross int) api.Diagram {
	c := d.Crosses[cross]
	in, out := c.B, c.D
	if c.Plus {
		in, out = out, in
	}
	one := api.Diagram{Loops: d.Loops}
	name := make([]int, 2*len(d.Crosses)+1)
	for arc := range name {
		name[arc] = arc
	}
	for _, pair := range [][2]int{{c.A, out}, {in, c.C}} {
		from, to := name[pair[0]], name[pair[1]]
		if from == to {
			one.Loops++
		}
		for arc := range name {
			if name[arc] == to {
				name[arc] = from
			}
		}
	}
	number := map[int]int{}
	renamed := func(arc int) int {
		if number[name[arc]] == 0 {
			number[name[arc]] = len(number) + 1
		}
		return number[name[arc]]
	}
	for k, c := range d.Crosses {
		if k != cross {
			one.Crosses = append(one.Crosses, api.Cross{A: renamed(c.A), B: renamed(c.B), C: renamed(c.C), D: renamed(c.D), Plus: c.Plus})
		}
	}
	return one
}

// Summed: a sum of two of these diagrams along arcs, if there is one of at most so many crossings.
func Summed(die *samples.Die, ones []api.Diagram, most int) (a, b, both api.Diagram, ok bool) {
	a, b = ones[die.Below(len(ones))], ones[die.Below(len(ones))]
	n, m := len(a.Crosses), len(b.Crosses)
	if n == 0 || m == 0 || n+m > most || a.Loops+b.Loops > api.MaxLoops {
		return a, b, both, false
	}
	both, e := canon.Sum(a, 1+die.Below(2*n), b, 1+die.Below(2*m))
	if e != api.OK {
		panic(e.Error())
	}
	return a, b, both, true
}
