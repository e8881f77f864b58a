package khovanov

import "cmp"

// sum of marked states, modulo 2.
type sum map[marked]struct{}

// add a marked state; if it stands there already, it is taken out.
func (s sum) add(m marked) {
	if _, twice := s[m]; twice {
		delete(s, m)
	} else {
		s[m] = struct{}{}
	}
}

// first of its marked states, in an order of all of them.
func (s sum) first() marked {
	first := marked{state: -1}
	for m := range s {
		if first.state < 0 || before(m, first) {
			first = m
		}
	}
	return first
}

// before: does it come ahead of the other one?
func before(m, other marked) bool {
	return cmp.Or(cmp.Compare(m.state, other.state), cmp.Compare(m.minus, other.minus)) < 0
}

// basis: sums, none of which is a sum of others; each is found by its first marked state, and no two begin with the same.
type basis map[marked]sum

// grows: takes a sum in, unless it is a sum of those that are there. (It must not be used any more.)
func (b basis) grows(s sum) bool {
	for len(s) > 0 {
		first := s.first()
		known, ok := b[first]
		if !ok {
			b[first] = s
			return true
		}
		for m := range known {
			s.add(m)
		}
	}
	return false
}
