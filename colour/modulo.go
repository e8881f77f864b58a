package colour

import "knotwork/drawing"

// prime: is it one?
func prime(p int) bool {
	for factor := 2; factor*factor <= p; factor++ {
		if p%factor == 0 {
			return false
		}
	}
	return p >= 2
}

// equations between the colours of overpasses modulo p, one a crossing: a row's numbers, each times its overpass's colour, are 0 together.
func equations(w drawing.Drawing, over []int, count, p int) [][]int {
	var table [][]int
	for _, c := range w.Crosses {
		row := make([]int, count)
		row[over[c.B]] += 2
		row[over[c.A]]--
		row[over[c.C]]--
		for i := range row {
			row[i] = (row[i] + p) % p // none is below -2, and p is no less than 2
		}
		table = append(table, row)
	}
	return table
}

// rank of a table modulo p, which is used up by it.
func rank(table [][]int, p int) int {
	done := 0
	if len(table) == 0 {
		return done
	}
	for column := range table[0] {
		for i := done; i < len(table); i++ {
			if table[i][column] != 0 {
				table[done], table[i] = table[i], table[done]
				clearBelow(table[done:], column, p)
				done++
				break
			}
		}
	}
	return done
}

// clearBelow: so often is the first row added to each other one that nothing is left there in the column.
func clearBelow(table [][]int, column, p int) {
	first := table[0]
	for _, row := range table[1:] {
		times := (p - row[column]) * inverse(first[column], p) % p
		for i := range row {
			row[i] = (row[i] + times*first[i]) % p
		}
	}
}

// inverse of a number modulo p, that is not 0.
func inverse(a, p int) int {
	for b := range p {
		if a*b%p == 1 {
			return b
		}
	}
	return 0
}
