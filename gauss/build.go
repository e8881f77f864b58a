package gauss

import "knotwork/api"

// tally: how often a crossing was visited below, and above.
type tally [2]int

// refusal: what is wrong with visits, signs and loops of which a diagram is to be built.
func refusal(l [][]api.Visit, plus []bool, loops int) api.Errno {
	if len(plus) > api.MaxCross || loops < 0 || loops > api.MaxLoops {
		return api.ErrSize
	}
	tallies, ok := counted(l, len(plus))
	if !ok {
		return api.ErrRange
	}
	for _, visited := range tallies {
		if visited != (tally{1, 1}) {
			return api.ErrTwice
		}
	}
	for _, part := range l {
		if len(part) == 0 {
			return api.ErrState
		}
	}
	if len(plus)+loops == 0 {
		return api.ErrState
	}
	return api.OK
}

// counted: of each crossing how often it is visited; ok: no other crossing is.
func counted(l [][]api.Visit, crosses int) (tallies []tally, ok bool) {
	tallies = make([]tally, crosses)
	for _, part := range l {
		for _, v := range part {
			if v.Cross < 0 || v.Cross >= crosses {
				return nil, false
			}
			if v.Over {
				tallies[v.Cross][1]++
			} else {
				tallies[v.Cross][0]++
			}
		}
	}
	return tallies, true
}

// built: the diagram of visits with which nothing is wrong.
func built(l [][]api.Visit, plus []bool, loops int) api.Diagram {
	d := api.Diagram{Crosses: make([]api.Cross, len(plus)), Loops: loops}
	for k := range d.Crosses {
		d.Crosses[k].Plus = plus[k]
	}
	first := 1
	for _, part := range l {
		for i, v := range part {
			next := (i + 1) % len(part)
			pass(&d.Crosses[v.Cross], v.Over, first+i, first+next)
		}
		first += len(part)
	}
	return d
}

// pass a crossing, above or below, from one arc to another.
func pass(c *api.Cross, over bool, from, to int) {
	switch {
	case !over:
		c.A, c.C = from, to
	case c.Plus:
		c.D, c.B = from, to
	default:
		c.B, c.D = from, to
	}
}
