package moves_test

import (
	"slices"

	"knotwork/api"
	"knotwork/code"
	"knotwork/gauss"
)

// tale of a diagram: of each part its arcs, and the visits to which they lead; of each crossing whether it is Plus. On it moves are done once more, as the chapter's words say.
type tale struct {
	arcs   [][]int
	visits [][]api.Visit
	plus   []bool
	loops  int
	faces  [][]api.Dart
}

// taleOf a diagram that may be.
func taleOf(d api.Diagram) *tale {
	arcs, _ := gauss.Strands(d)
	visits, plus, _ := gauss.Gauss(d)
	return &tale{arcs, visits, plus, d.Loops, facesOf(d)}
}

// diagram of which it tells, with the arcs of which it tells.
func (s *tale) diagram() api.Diagram {
	d := api.Diagram{Crosses: make([]api.Cross, len(s.plus)), Loops: s.loops}
	for p, visits := range s.visits {
		for i, v := range visits {
			in, out := s.arcs[p][i], s.arcs[p][(i+1)%len(visits)]
			c := &d.Crosses[v.Cross]
			c.Plus = s.plus[v.Cross]
			switch {
			case !v.Over:
				c.A, c.C = in, out
			case c.Plus:
				c.D, c.B = in, out
			default:
				c.B, c.D = in, out
			}
		}
	}
	return d
}

// doByWords: what Do should answer.
func doByWords(d api.Diagram, m api.Move) (api.Diagram, api.Errno) {
	if p, e := code.Planar(d); !p || e != api.OK {
		return api.Diagram{}, api.ErrState
	}
	s, why := taleOf(d), api.ErrKind
	switch m.Kind {
	case 1:
		why = s.curl(m)
	case 2:
		why = s.uncurl(m)
	case 3:
		why = s.push(m)
	case 4:
		why = s.pull(m)
	case 5:
		why = s.slide(m)
	}
	if why != api.OK {
		return api.Diagram{}, why
	}
	return s.diagram(), api.OK
}

// find an arc: the part, and the place in it.
func (s *tale) find(arc int) (part, i int) {
	for part, l := range s.arcs {
		if i := slices.Index(l, arc); i >= 0 {
			return part, i
		}
	}
	return -1, -1
}

// isArc, isCross: is there one?
func (s *tale) isArc(arc int) bool {
	part, _ := s.find(arc)
	return part >= 0
}
func (s *tale) isCross(k int) bool { return k >= 0 && k < len(s.plus) }

// cut an arc into three: behind its number come more and more+1, ahead of which two visits lie.
func (s *tale) cut(arc, more int, first, second api.Visit) {
	p, i := s.find(arc)
	s.arcs[p] = slices.Insert(s.arcs[p], i+1, more, more+1)
	s.visits[p] = slices.Insert(s.visits[p], i, first, second)
}

// curl: P5.1.
func (s *tale) curl(m api.Move) api.Errno {
	n := len(s.plus)
	switch {
	case !s.isArc(m.At) && (m.At != 0 || s.loops == 0), m.By < 0, m.By > 3:
		return api.ErrRange
	case n == 16:
		return api.ErrSize
	}
	over := m.By == 2 || m.By == 3
	first, second := api.Visit{Cross: n, Over: over}, api.Visit{Cross: n, Over: !over}
	s.plus = append(s.plus, m.By == 1 || m.By == 3)
	if m.At == 0 {
		s.loops--
		s.arcs = append(s.arcs, []int{2*n + 1, 2*n + 2})
		s.visits = append(s.visits, []api.Visit{first, second})
	} else {
		s.cut(m.At, 2*n+1, first, second)
	}
	return api.OK
}

// uncurl: P5.2.
func (s *tale) uncurl(m api.Move) api.Errno {
	if !s.isCross(m.At) {
		return api.ErrRange
	}
	c := s.diagram().Crosses[m.At]
	if c.A != c.B && c.B != c.C && c.C != c.D && c.D != c.A {
		return api.ErrNone
	}
	return s.takeOut(m.At)
}

// takeOut crossings: the arcs up to the next visit that is left are one.
func (s *tale) takeOut(gone ...int) api.Errno {
	left := &tale{loops: s.loops}
	isGone := func(v api.Visit) bool { return slices.Contains(gone, v.Cross) }
	for p, visits := range s.visits {
		last := len(visits) - 1
		for last >= 0 && isGone(visits[last]) {
			last--
		}
		if last < 0 {
			left.loops++
			continue
		}
		visits = slices.Concat(visits[last+1:], visits[:last+1])
		arcs := slices.Concat(s.arcs[p][last+1:], s.arcs[p][:last+1])
		var leftArcs, one []int
		for i, v := range visits {
			one = append(one, arcs[i])
			if !isGone(v) {
				leftArcs = append(leftArcs, slices.Min(one))
				one = nil
			}
		}
		left.arcs = append(left.arcs, leftArcs)
		left.visits = append(left.visits, slices.DeleteFunc(visits, isGone))
	}
	for k, plus := range s.plus {
		if !slices.Contains(gone, k) {
			left.plus = append(left.plus, plus)
		}
	}
	left.renumber(gone)
	*s = *left
	if s.loops > 16 {
		return api.ErrSize
	}
	return api.OK
}

// renumber arcs from 1 on, in the order of their numbers, and crossings, some of which are gone.
func (s *tale) renumber(gone []int) {
	all := slices.Concat(s.arcs...)
	slices.Sort(all)
	for p := range s.arcs {
		for i, arc := range s.arcs[p] {
			s.arcs[p][i] = 1 + slices.Index(all, arc)
		}
		for i, v := range s.visits[p] {
			for _, k := range gone {
				if v.Cross > k {
					s.visits[p][i].Cross--
				}
			}
		}
	}
}

// arrow: a way on the plane: to the east, and to the north.
type arrow struct{ x, y int }

// along: the way of a dart's arc, where the dart goes that way.
func (a arrow) along(d api.Dart) arrow {
	if d.Back {
		return arrow{-a.x, -a.y}
	}
	return a
}

// isPlus: does what goes above go to the right of what goes below?
func isPlus(above, below arrow) bool { return below.x*above.y-below.y*above.x < 0 }

// push: P5.3.
func (s *tale) push(m api.Move) api.Errno {
	n := len(s.plus)
	switch {
	case !s.isArc(m.U.Arc) || !s.isArc(m.V.Arc):
		return api.ErrRange
	case m.U.Arc == m.V.Arc || !slices.ContainsFunc(s.faces, func(ring []api.Dart) bool {
		return slices.Contains(ring, m.U) && slices.Contains(ring, m.V)
	}):
		return api.ErrNone
	case n > 14:
		return api.ErrSize
	}
	p, q := n, n+1
	uFirst, uSecond, vFirst, vSecond := p, q, q, p
	if m.U.Back {
		uFirst, uSecond = q, p
	}
	if m.V.Back {
		vFirst, vSecond = p, q
	}
	s.cut(m.U.Arc, 2*n+1, api.Visit{Cross: uFirst, Over: m.Over}, api.Visit{Cross: uSecond, Over: m.Over})
	s.cut(m.V.Arc, 2*n+3, api.Visit{Cross: vFirst, Over: !m.Over}, api.Visit{Cross: vSecond, Over: !m.Over})
	north, south, west := arrow{0, 1}.along(m.U), arrow{0, -1}.along(m.U), arrow{-1, 0}.along(m.V)
	if m.Over {
		s.plus = append(s.plus, isPlus(north, west), isPlus(south, west))
	} else {
		s.plus = append(s.plus, isPlus(west, north), isPlus(west, south))
	}
	return api.OK
}

// ends of an arc: the visits from which it comes, and to which it leads.
func (s *tale) ends(arc int) (from, to *api.Visit) {
	p, i := s.find(arc)
	l := s.visits[p]
	return &l[(i+len(l)-1)%len(l)], &l[i]
}

// layers of a face: how many of its arcs are above at both ends, and how many below at both; and between which crossings they lead.
func (s *tale) layers(ring []api.Dart) (above, below int, corners []int) {
	for _, d := range ring {
		from, to := s.ends(d.Arc)
		if from.Over && to.Over {
			above++
		}
		if !from.Over && !to.Over {
			below++
		}
		corners = append(corners, from.Cross, to.Cross)
	}
	slices.Sort(corners)
	return above, below, slices.Compact(corners)
}

// pull: P5.4.
func (s *tale) pull(m api.Move) api.Errno {
	if !s.isCross(m.At) || !s.isCross(m.By) || m.At == m.By {
		return api.ErrRange
	}
	for _, ring := range s.faces {
		above, below, corners := s.layers(ring)
		if len(ring) == 2 && above == 1 && below == 1 && slices.Equal(corners, []int{min(m.At, m.By), max(m.At, m.By)}) {
			return s.takeOut(m.At, m.By)
		}
	}
	return api.ErrNone
}

// slide: P5.5.
func (s *tale) slide(m api.Move) api.Errno {
	if m.At < 0 || m.At >= len(s.faces) {
		return api.ErrRange
	}
	ring := s.faces[m.At]
	if above, below, corners := s.layers(ring); len(ring) != 3 || len(corners) != 3 || above != 1 || below != 1 {
		return api.ErrNone
	}
	for _, d := range ring {
		from, to := s.ends(d.Arc)
		*from, *to = *to, *from
	}
	return api.OK
}

// simpleByWords: P5.7, of a diagram that lies on a sphere.
func simpleByWords(d api.Diagram) (api.Diagram, []api.Move) {
	var done []api.Move
	for {
		m, less, ok := firstTaking(d)
		if !ok {
			return d, done
		}
		d, done = less, append(done, m)
	}
}

// firstTaking: the first move that takes something out.
func firstTaking(d api.Diagram) (m api.Move, less api.Diagram, ok bool) {
	for k := range d.Crosses {
		if less, e := doByWords(d, uncurl(k)); e == api.OK {
			return uncurl(k), less, true
		}
	}
	for k := range d.Crosses {
		for j := k + 1; j < len(d.Crosses); j++ {
			if less, e := doByWords(d, pull(k, j)); e == api.OK {
				return pull(k, j), less, true
			}
		}
	}
	return api.Move{}, api.Diagram{}, false
}
