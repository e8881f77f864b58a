package closure_test

import (
	"testing"

	"knotwork/api"
	"knotwork/gauss"
)

// What the chapter's words say, done as plainly as may be.

// closedByWords: strands are walked from below to above, and from above to below; chapter 3 builds what their visits tell.
func closedByWords(n int, word []int) api.Diagram {
	var parts [][]api.Visit
	walked, loops := map[int]int{}, 0
	for first := 1; first <= n; first++ {
		if walked[first] > 0 {
			continue
		}
		var visits []api.Visit
		for place := first; walked[place] == 0; {
			walked[place]++
			for k, x := range word {
				toRight, toLeft := place == size(x), place == size(x)+1
				if toRight || toLeft {
					visits = append(visits, api.Visit{Cross: k, Over: toRight == (x > 0)})
				}
				if toRight {
					place++
				}
				if toLeft {
					place--
				}
			}
		}
		if len(visits) == 0 {
			loops++
			continue
		}
		parts = append(parts, visits)
	}
	var plus []bool
	for _, x := range word {
		// Who goes upwards to the right above sees who goes upwards to the left below come from the right: Plus.
		plus = append(plus, x > 0)
	}
	d, e := gauss.Build(parts, plus, loops)
	if e != api.OK {
		panic(e.Error())
	}
	return d
}

// powers: coefficients of a polynomial, by exponents from -middle on.
type powers [2*middle + 1]int

// middle: where the coefficient at the exponent 0 stands.
const middle = 2 * api.MaxWord

// with coefficients at the exponents -1, 0 and 1.
func with(below, at, above int) powers {
	var p powers
	p[middle-1], p[middle], p[middle+1] = below, at, above
	return p
}

// add a product of two.
func (p *powers) add(a, b powers) {
	for i, x := range a {
		if x == 0 {
			continue
		}
		for j, y := range b {
			if y != 0 {
				p[i+j-middle] += x * y
			}
		}
	}
}

// letterTable: the whole table of a letter, as P14.2 tells it; of the letter 0: 1 at each place with itself, 0 elsewhere.
func letterTable(n, letter int) [][]powers {
	m := make([][]powers, n)
	for row := range m {
		m[row] = make([]powers, n)
		m[row][row] = with(0, 1, 0)
	}
	i := size(letter)
	switch {
	case letter > 0:
		m[i-1][i-1], m[i-1][i] = with(0, 1, -1), with(0, 0, 1)
		m[i][i-1], m[i][i] = with(0, 1, 0), with(0, 0, 0)
	case letter < 0:
		m[i-1][i-1], m[i-1][i] = with(0, 0, 0), with(0, 1, 0)
		m[i][i-1], m[i][i] = with(1, 0, 0), with(-1, 1, 0)
	}
	return m
}

// product of whole tables.
func product(a, b [][]powers) [][]powers {
	m := make([][]powers, len(a))
	for row := range m {
		m[row] = make([]powers, len(a))
		for place := range m[row] {
			for i := range a {
				m[row][place].add(a[row][i], b[i][place])
			}
		}
	}
	return m
}

// inForm: a table's polynomials as lists of terms.
func inForm(m [][]powers) table {
	told := make(table, len(m))
	for row := range m {
		for _, p := range m[row] {
			var l []api.Term
			for i, coef := range p {
				if coef != 0 {
					l = append(l, api.Term{Exp: i - middle, Coef: coef})
				}
			}
			told[row] = append(told[row], l)
		}
	}
	return told
}

// burauByWords: whole tables are multiplied, letter by letter.
func burauByWords(n int, word []int) table {
	m := letterTable(n, 0)
	for _, x := range word {
		m = product(m, letterTable(n, x))
	}
	return inForm(m)
}

// The means of these tests: a letter's table and that of its reciprocal are reciprocals.
func TestLetterTables(t *testing.T) {
	for n := 2; n <= api.MaxStrands; n++ {
		none := inForm(letterTable(n, 0))
		for x := 1; x < n; x++ {
			a, b := letterTable(n, x), letterTable(n, -x)
			if !alike(inForm(product(a, b)), none) || !alike(inForm(product(b, a)), none) || alike(inForm(a), none) {
				t.Error(n, x)
			}
		}
	}
}
