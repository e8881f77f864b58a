package colour

// tableOfColours: is it a square table of one to four rows, of colours alone?
func tableOfColours(q [][]int) bool {
	if len(q) == 0 || len(q) > maxColours {
		return false
	}
	for _, row := range q {
		if len(row) != len(q) {
			return false
		}
		for _, c := range row {
			if c < 0 || c >= len(q) {
				return false
			}
		}
	}
	return true
}

// quandle: is a table of colours one?
func quandle(q [][]int) bool {
	for a := range len(q) {
		if q[a][a] != a || !hitsAll(q, a) {
			return false
		}
	}
	for a := range len(q) {
		for b := range len(q) {
			for c := range len(q) {
				if q[q[a][b]][c] != q[q[a][c]][q[b][c]] {
					return false
				}
			}
		}
	}
	return true
}

// hitsAll: is of each colour c just one a with a ▷ b = c? As there are as many of both, none may be hit twice.
func hitsAll(q [][]int, b int) bool {
	var hit [maxColours]bool
	for a := range len(q) {
		if hit[q[a][b]] {
			return false
		}
		hit[q[a][b]] = true
	}
	return true
}
