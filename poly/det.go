package poly

import "knotwork/api"

// square: is it a table that is not too great, with rows as long as there are rows?
func square(m [][][]api.Term) bool {
	if len(m) > api.MaxSide {
		return false
	}
	for _, row := range m {
		if len(row) != len(m) {
			return false
		}
	}
	return true
}

// everyPlace: does each place of the table hold good?
func everyPlace(m [][][]api.Term, good func(a []api.Term) bool) bool {
	for _, row := range m {
		for _, place := range row {
			if !good(place) {
				return false
			}
		}
	}
	return true
}

// small: are the coefficients' sizes few enough together for a table's place?
func small(a []api.Term) bool {
	sum := 0
	for _, t := range a {
		sum += size(t.Coef)
	}
	return sum <= api.MaxSum
}
