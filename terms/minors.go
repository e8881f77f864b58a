package terms

import (
	"math/bits"

	"knotwork/api"
)

// Expanded: the determinant of a table with as many places in each row as there
// are rows. minors[set] is that of the first rows with the columns of set, as
// many rows as columns: each is told by smaller ones along its last row, so that
// none is worked out twice.
func Expanded(m [][][]api.Term) Work {
	minors := make([]Work, 1<<len(m))
	minors[0] = Work{0: 1}
	for set := 1; set < len(minors); set++ {
		row := m[bits.OnesCount(uint(set))-1]
		sum := Work{}
		for column, place := range row {
			if set>>column&1 == 0 {
				continue
			}
			sign := 1
			if bits.OnesCount(uint(set>>column))%2 == 0 { // an odd number of columns stand behind it
				sign = -1
			}
			sum.addProduct(minors[set&^(1<<column)], place, sign)
		}
		minors[set] = sum
	}
	return minors[len(minors)-1]
}

// addProduct: the product of q, a and the sign is added to p itself, for a minor
// is a sum of many products. (q must be another one than p.)
func (p Work) addProduct(q Work, a []api.Term, sign int) {
	for exp, coef := range q {
		for _, t := range a {
			p[exp+t.Exp] += sign * coef * t.Coef
		}
	}
}
