package khovanov

import "math/bits"

// arcs: a set of them, each by the bit of its number.
type arcs uint

// rings of a state: of each arc all arcs of its ring. What stands first tells of no arc.
type rings []arcs

// untied: rings of one arc each.
func untied(count int) rings {
	r := make(rings, count+1)
	for arc := 1; arc <= count; arc++ {
		r[arc] = 1 << arc
	}
	return r
}

// tie two arcs: their rings become one.
func (r rings) tie(x, y int) {
	one := r[x] | r[y]
	for arc := range r {
		if one>>arc&1 == 1 {
			r[arc] = one
		}
	}
}

// each of them once, found at its lowest arc.
func (r rings) each() []arcs {
	var l []arcs
	for arc := 1; arc < len(r); arc++ {
		if bits.TrailingZeros(uint(r[arc])) == arc {
			l = append(l, r[arc])
		}
	}
	return l
}
