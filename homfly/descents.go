package homfly

import (
	"knotwork/api"
	"knotwork/drawing"
	"knotwork/terms"
)

// How strands go on behind a crossing, as far as it was met.
const (
	unmet  = iota
	across // both go on across it; who met it first is above
	aside  // it is smoothed: each goes on along the other's way
)

// descent: a walk along all strands, ring by ring, on which each crossing is
// changed or smoothed that would be met below first. Where all are met above
// first, the rings lie one upon the other, and none is knotted: they come apart.
type descent struct {
	arc    int // the one that is walked now
	ways   [maxCross]int
	walked [2*maxCross + 1]bool // by arcs
	rings  int                  // so many were closed
	worth  api.Term2            // what the rings count for, at the end
}

// descents of a drawing, and what all of them are worth together.
type descents struct {
	drawing.Drawing
	sum terms.Pairs
}

// polynomialOf a drawing.
func polynomialOf(w drawing.Drawing) terms.Pairs {
	all := descents{w, terms.Pairs{}}
	all.walk(descent{arc: 1, rings: w.Loops, worth: api.Term2{Coef: 1}})
	return all.sum
}

// walk on to the end; what the rings are worth then is added to the sum.
func (all descents) walk(d descent) {
	for all.Has(d.arc) {
		d.walked[d.arc] = true
		if k := all.To[d.arc].Cross; d.ways[k] == unmet {
			d = all.met(d, k)
		}
		d = all.onward(d)
	}
	all.sum.Add(rings(d.rings), d.worth)
}

// met: the walk at a crossing that it has not met before. From below it goes on across the changed one, when another walk has gone to the end from the smoothed one.
func (all descents) met(d descent, k int) descent {
	if !all.Above(d.arc) {
		changed, smoothed := exchange(all.Crosses[k].Plus)
		other := d
		other.ways[k], other.worth = aside, product(d.worth, smoothed)
		all.walk(all.onward(other))
		d.worth = product(d.worth, changed)
	}
	d.ways[k] = across
	return d
}

// onward: the walk on the arc that comes next: if the ring is closed, on the first one that was not walked. (Where none is left it is on an arc that is not there.)
func (all descents) onward(d descent) descent {
	next := all.Ahead
	if d.ways[all.To[d.arc].Cross] == aside {
		next = all.Aside
	}
	d.arc = next(d.arc)
	if !d.walked[d.arc] {
		return d
	}
	d.rings++
	for d.arc = 1; all.Has(d.arc) && d.walked[d.arc]; {
		d.arc++
	}
	return d
}

// exchange: by what the changed and the smoothed diagram count, where a crossing, Plus or not, is given for both: for x times the diagram where it is Plus, less x^-1 times the one where it is not, is z times the smoothed one.
func exchange(plus bool) (changed, smoothed api.Term2) {
	if plus {
		return api.Term2{X: -2, Coef: 1}, api.Term2{X: -1, Z: 1, Coef: 1}
	}
	return api.Term2{X: 2, Coef: 1}, api.Term2{X: 1, Z: 1, Coef: -1}
}
