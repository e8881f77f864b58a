package moves

import (
	"knotwork/api"
	"knotwork/drawing"
)

// pass of a strand through a crossing: the arcs on which it comes in and goes out.
type pass struct{ in, out int }

// crossed: the crossing of two passes, of which the first is above, if over.
func crossed(first, second pass, over, plus bool) api.Cross {
	above, below := first, second
	if !over {
		above, below = second, first
	}
	if plus {
		return api.Cross{A: below.in, B: above.out, C: below.out, D: above.in, Plus: true}
	}
	return api.Cross{A: below.in, B: above.in, C: below.out, D: above.out}
}

// What the way of a curl is made of.
const (
	curlPlus  = 1 << iota // its crossing is Plus
	curlAbove             // its strand goes above first
	curlWays              // so many ways there are
)

// curl an arc, or a loop.
func (b bench) curl(m api.Move) api.Diagram {
	need(b.Has(m.At) || m.At == 0 && b.Loops > 0, api.ErrRange)
	need(m.By >= 0 && m.By < curlWays, api.ErrRange)
	n := len(b.Crosses)
	need(n < api.MaxCross, api.ErrSize)
	loops, arcs := b.Loops, map[drawing.Spot]int{}
	first, ring, last := m.At, 2*n+1, 2*n+2
	if m.At == 0 {
		loops--
		first, ring, last = 2*n+1, 2*n+2, 2*n+1
	} else {
		arcs[b.To[m.At]] = last
	}
	c := crossed(pass{first, ring}, pass{ring, last}, m.By&curlAbove != 0, m.By&curlPlus != 0)
	return api.Diagram{Crosses: append(b.relaid(arcs), c), Loops: loops}
}

// push an arc over another one, or below it.
func (b bench) push(m api.Move) api.Diagram {
	u, v := m.U, m.V
	need(b.Has(u.Arc) && b.Has(v.Arc), api.ErrRange)
	need(u.Arc != v.Arc && b.onOneFace(u, v), api.ErrNone)
	n := len(b.Crosses)
	need(n+2 <= api.MaxCross, api.ErrSize)
	arcs := map[drawing.Spot]int{b.To[u.Arc]: 2*n + 2, b.To[v.Arc]: 2*n + 4}
	uAtP, uAtQ := pass{u.Arc, 2*n + 1}, pass{2*n + 1, 2*n + 2}
	if u.Back {
		uAtP, uAtQ = uAtQ, uAtP
	}
	vAtQ, vAtP := pass{v.Arc, 2*n + 3}, pass{2*n + 3, 2*n + 4}
	if v.Back {
		vAtQ, vAtP = vAtP, vAtQ
	}
	// Along V, U comes up from its left at P, and goes back at Q. A crossing is Plus
	// where, along the strand below, the one above goes to the right; who is below,
	// and each arc that runs against its dart, turns it.
	plus := m.Over == (u.Back == v.Back)
	p, q := crossed(uAtP, vAtP, m.Over, plus), crossed(uAtQ, vAtQ, m.Over, !plus)
	return api.Diagram{Crosses: append(b.relaid(arcs), p, q), Loops: b.Loops}
}

// onOneFace: does the face along a dart lie along another one, too?
func (b bench) onOneFace(u, v api.Dart) bool {
	for d := b.Onward(u); d != u; d = b.Onward(d) {
		if d == v {
			return true
		}
	}
	return false
}
