package closure

import (
	"knotwork/api"
	"knotwork/terms"
)

// table of polynomials at work, row by row.
type table [][]terms.Work

// unit table: 1 at each place with itself, 0 elsewhere.
func unit(n int) table {
	t := make(table, n)
	for i := range t {
		t[i] = make([]terms.Work, n)
		t[i][i] = terms.Work{0: 1}
	}
	return t
}

// block: where the table of a letter differs from the unit table: its two rows and places there.
func block(letter int) [2][2]terms.Work {
	if letter > 0 {
		return [2][2]terms.Work{
			{{0: 1, 1: -1}, {1: 1}},
			{{0: 1}, {}},
		}
	}
	return [2][2]terms.Work{
		{{}, {0: 1}},
		{{-1: 1}, {-1: -1, 0: 1}},
	}
}

// multiply by the table of a letter, from the right: in each row just two places change.
func (t table) multiply(letter int) {
	right, b := size(letter), block(letter)
	left := right - 1
	for _, row := range t {
		x, y := row[left], row[right]
		row[left] = x.Times(b[0][0]).Plus(y.Times(b[1][0]))
		row[right] = x.Times(b[0][1]).Plus(y.Times(b[1][1]))
	}
}

// told: its polynomials in form.
func (t table) told() [][][]api.Term {
	told := make([][][]api.Term, len(t))
	for i, row := range t {
		told[i] = make([][]api.Term, len(row))
		for j, p := range row {
			told[i][j] = p.InForm()
		}
	}
	return told
}
