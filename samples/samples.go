// Package samples: diagrams and words of braids for the tests of all layers. The program itself does not use it.
package samples

import (
	"slices"

	"knotwork/api"
)

// Die: numbers that look drawn, the same each time.
type Die uint64

// Below: a number from 0 on, below most.
func (d *Die) Below(most int) int {
	*d = *d*6364136223846793005 + 1442695040888963407
	return int(uint64(*d>>33) % uint64(most))
}

// Trefoil: chapter 2's.
func Trefoil() api.Diagram {
	return api.Diagram{Crosses: []api.Cross{
		{A: 1, B: 4, C: 2, D: 5}, {A: 3, B: 6, C: 4, D: 1}, {A: 5, B: 2, C: 6, D: 3},
	}}
}

// Chain: two strands wind around one another so many times, Plus or not, and are closed.
func Chain(crosses int, plus bool) api.Diagram {
	letter := -1
	if plus {
		letter = 1
	}
	return Weave(2, slices.Repeat([]int{letter}, crosses))
}

// Weave: the closure of a braid: its letters are numbers, from 1 on below strands, - ahead of those that are not Plus. What no letter moves is a loop.
func Weave(strands int, word []int) api.Diagram {
	var d api.Diagram
	// By place: the arc on which its strand goes up; below 0: it has met no crossing,
	// so its arc is the one that comes back to this place from the top.
	arcs := make([]int, strands+1)
	for place := range arcs {
		arcs[place] = -place
	}
	for k, x := range word {
		i := max(x, -x)
		left, right := 2*k+1, 2*k+2
		c := api.Cross{A: arcs[i], B: arcs[i+1], C: right, D: left}
		if x > 0 {
			c = api.Cross{A: arcs[i+1], B: right, C: left, D: arcs[i], Plus: true}
		}
		d.Crosses = append(d.Crosses, c)
		arcs[i], arcs[i+1] = left, right
	}
	for _, arc := range arcs[1:] {
		if arc < 0 {
			d.Loops++
		}
	}
	closed := func(arc int) int {
		if arc < 0 {
			return arcs[-arc]
		}
		return arc
	}
	for k, c := range d.Crosses {
		d.Crosses[k] = api.Cross{A: closed(c.A), B: closed(c.B), C: closed(c.C), D: closed(c.D), Plus: c.Plus}
	}
	return d
}

// Woven: a braid's closure, of 1 to most letters.
func Woven(die *Die, most int) api.Diagram {
	strands := 2 + die.Below(3)
	return Weave(strands, DrawnWord(die, strands, 1+die.Below(most)))
}

// Knotted: any diagram of so many crossings that may be; most of them are not planar.
func Knotted(die *Die, crosses int) api.Diagram {
	in, out := shuffled(die, 2*crosses), shuffled(die, 2*crosses)
	var d api.Diagram
	for k := range crosses {
		c := api.Cross{A: in[2*k], B: in[2*k+1], C: out[2*k], D: out[2*k+1]}
		if die.Below(2) == 1 {
			c.B, c.D, c.Plus = c.D, c.B, true
		}
		d.Crosses = append(d.Crosses, c)
	}
	return d
}

// shuffled: the numbers from 1 to n.
func shuffled(die *Die, n int) []int {
	l := make([]int, n)
	for i := range l {
		j := die.Below(i + 1)
		l[i] = l[j]
		l[j] = i + 1
	}
	return l
}

// Beside: both diagrams, far from one another.
func Beside(a, b api.Diagram) api.Diagram {
	more := 2 * len(a.Crosses)
	d := api.Diagram{Crosses: slices.Clone(a.Crosses), Loops: a.Loops + b.Loops}
	for _, c := range b.Crosses {
		d.Crosses = append(d.Crosses, api.Cross{A: c.A + more, B: c.B + more, C: c.C + more, D: c.D + more, Plus: c.Plus})
	}
	return d
}

// Renamed: the same diagram, its crossings in another order and its arcs with other numbers.
func Renamed(die *Die, d api.Diagram) api.Diagram {
	n := len(d.Crosses)
	place, number := shuffled(die, n), append([]int{0}, shuffled(die, 2*n)...)
	l := make([]api.Cross, n)
	for k, c := range d.Crosses {
		l[place[k]-1] = api.Cross{A: number[c.A], B: number[c.B], C: number[c.C], D: number[c.D], Plus: c.Plus}
	}
	return api.Diagram{Crosses: l, Loops: d.Loops}
}
