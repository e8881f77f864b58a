package moves

import (
	"knotwork/api"
	"knotwork/drawing"
)

// bench: a drawing on a sphere, at which a move is done.
type bench struct{ drawing.Drawing }

// laid on a bench: a diagram.
func laid(d api.Diagram) bench {
	w, ok := drawing.Of(d)
	need(ok && w.OnSphere(), api.ErrState)
	return bench{w}
}

// need something, or give up: the faces recover from it, and tell why.
func need(ok bool, why api.Errno) {
	if !ok {
		panic(why)
	}
}

// moved: the diagram after a move.
func (b bench) moved(m api.Move) api.Diagram { return means(m.Kind)(b, m) }

// means by which moves of a kind are done.
func means(kind int) func(bench, api.Move) api.Diagram {
	switch kind {
	case api.Curl:
		return bench.curl
	case api.Uncurl:
		return bench.uncurl
	case api.Push:
		return bench.push
	case api.Pull:
		return bench.pull
	case api.Slide:
		return bench.slide
	}
	panic(api.ErrKind)
}

// relaid: the crossings, with other arcs at some spots.
func (b bench) relaid(arcs map[drawing.Spot]int) []api.Cross {
	var l []api.Cross
	for k, c := range b.Crosses {
		l = append(l, drawing.Renumbered(c, func(side, arc int) int {
			if other, ok := arcs[drawing.Spot{Cross: k, Side: side}]; ok {
				return other
			}
			return arc
		}))
	}
	return l
}

// layered: is one of a ring's arcs above at both its ends, and one below at both?
func (b bench) layered(ring []api.Dart) bool {
	top, bottom := false, false
	for _, d := range ring {
		begins, ends := b.From[d.Arc].Above(), b.To[d.Arc].Above()
		top = top || begins && ends
		bottom = bottom || !begins && !ends
	}
	return top && bottom
}
