package moves

import (
	"slices"

	"knotwork/api"
)

// takings: the moves that may take something out of a diagram of so many crossings, in the order in which they are tried.
func takings(crosses int) []api.Move {
	var l []api.Move
	for at := range crosses {
		l = append(l, api.Move{Kind: api.Uncurl, At: at})
	}
	for at := range crosses {
		for by := at + 1; by < crosses; by++ {
			l = append(l, api.Move{Kind: api.Pull, At: at, By: by})
		}
	}
	return l
}

// uncurl a crossing.
func (b bench) uncurl(m api.Move) api.Diagram {
	need(b.hasCross(m.At), api.ErrRange)
	need(b.curled(m.At), api.ErrNone)
	return b.without(m.At)
}

// pull two crossings apart.
func (b bench) pull(m api.Move) api.Diagram {
	need(b.hasCross(m.At) && b.hasCross(m.By) && m.At != m.By, api.ErrRange)
	need(slices.ContainsFunc(b.FaceRings(), func(ring []api.Dart) bool {
		return b.joins(ring, m.At, m.By) && b.layered(ring)
	}), api.ErrNone)
	return b.without(m.At, m.By)
}

// hasCross: is there such a crossing?
func (b bench) hasCross(k int) bool { return k >= 0 && k < len(b.Crosses) }

// curled: does an arc lead from the crossing to itself, from a place to one next to it?
func (b bench) curled(k int) bool {
	for arc := 1; b.Has(arc); arc++ {
		from, to := b.From[arc], b.To[arc]
		if from.Cross == k && to.Cross == k && from.Across() != to {
			return true
		}
	}
	return false
}

// joins: has the ring just two darts, one from each of both crossings to the other?
func (b bench) joins(ring []api.Dart, k, j int) bool {
	if len(ring) != 2 {
		return false
	}
	x, y := b.End(ring[0]).Cross, b.End(ring[1]).Cross
	return x == k && y == j || x == j && y == k
}

// without some crossings: their strands go on across them.
func (b bench) without(gone ...int) api.Diagram {
	d := b.Without(b.Ahead, gone...)
	need(d.Loops <= api.MaxLoops, api.ErrSize)
	return d
}
