package sign

// square: a table of so many rows, all of whose places are 0.
func square(side int) [][]int {
	m := make([][]int, side)
	for i := range m {
		m[i] = make([]int, side)
	}
	return m
}

// withoutFirst: a table without its first row and its first place in each row; it shares memory with the whole one.
func withoutFirst(table [][]int) [][]int {
	var rest [][]int
	for _, row := range table[1:] {
		rest = append(rest, row[1:])
	}
	return rest
}

// characteristic: the coefficients of the determinant of x less m, from the
// highest power of x on, as Faddeev and LeVerrier find them: all divisions come
// out even. Of Goeritz's tables they do not leave 64 bits: 16 crossings put no
// more than 64 into all places together, so that no minor is above 4^16, and a
// number at work is at most 2^9 times a sum of fewer than 2^14 minors.
func characteristic(m [][]int) []int {
	coefs := []int{1}
	work := square(len(m))
	for k := 1; k <= len(m); k++ {
		for i := range work {
			work[i][i] += coefs[k-1]
		}
		work = product(m, work)
		trace := 0
		for i := range work {
			trace += work[i][i]
		}
		coefs = append(coefs, -trace/k)
	}
	return coefs
}

// product of two square tables.
func product(a, b [][]int) [][]int {
	m := square(len(a))
	for i, row := range a {
		for k, x := range row {
			for j, y := range b[k] {
				m[i][j] += x * y
			}
		}
	}
	return m
}

// squares: how many squares with a plus sign there are, less how many with a
// minus, by the coefficients of a table that is its own mirror image. The zeros
// of its characteristic polynomial are the numbers ahead of the squares. All are
// real, so that those above 0 are just as many as the coefficients change signs.
func squares(coefs []int) int {
	above, all, last := 0, 0, 1
	for power, coef := range coefs {
		if coef == 0 {
			continue
		}
		if (coef < 0) != (last < 0) {
			above++
		}
		all, last = power, coef
	}
	return above - (all - above)
}

// determinantSize: that of the table's determinant, by its coefficients.
func determinantSize(coefs []int) int {
	last := coefs[len(coefs)-1]
	return max(last, -last)
}
