package poly

import (
	"math/bits"

	"knotwork/api"
)

// square: is it a table that is not too great, with rows as long as there are rows?
func square(m [][][]api.Term) bool {
	if len(m) > api.MaxSide {
		return false
	}
	for _, row := range m {
		if len(row) != len(m) {
			return false
		}
	}
	return true
}

// everyPlace: does each place of the table hold good?
func everyPlace(m [][][]api.Term, good func(a []api.Term) bool) bool {
	for _, row := range m {
		for _, place := range row {
			if !good(place) {
				return false
			}
		}
	}
	return true
}

// small: are the coefficients' sizes few enough together for a table's place?
func small(a []api.Term) bool {
	sum := 0
	for _, t := range a {
		sum += size(t.Coef)
	}
	return sum <= api.MaxSum
}

// determinant of a table that has been looked through. minors[set] is that of
// the first rows with the columns of set, as many rows as columns: each is told
// by smaller ones along its last row, so that none is worked out twice.
func determinant(m [][][]api.Term) work {
	minors := make([]work, 1<<len(m))
	minors[0] = work{0: 1}
	for set := 1; set < len(minors); set++ {
		row := m[bits.OnesCount(uint(set))-1]
		sum := work{}
		for column, place := range row {
			if set>>column&1 == 0 {
				continue
			}
			if bits.OnesCount(uint(set>>column))%2 == 0 { // an odd number of columns stand behind it
				place = changed(place, negated)
			}
			sum.addProduct(minors[set&^(1<<column)], place)
		}
		minors[set] = sum
	}
	return minors[len(minors)-1]
}

// negated: with the other sign.
func negated(t api.Term) api.Term {
	return api.Term{Exp: t.Exp, Coef: -t.Coef}
}

// addProduct: the product of q and a is added to p itself, for a minor is a sum
// of many products. (q must be another one than p.)
func (p work) addProduct(q work, a []api.Term) {
	for exp, coef := range q {
		for _, t := range a {
			p[exp+t.Exp] += coef * t.Coef
		}
	}
}
