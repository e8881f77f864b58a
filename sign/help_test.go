package sign_test

import (
	"math/big"
	"slices"
	"testing"

	"knotwork/api"
	"knotwork/moved"
	"knotwork/samples"
	"knotwork/sign"
	"knotwork/wind"
)

// equal: are both tables the same?
func equal(a, b [][]int) bool { return slices.EqualFunc(a, b, slices.Equal[[]int]) }

// shades of a diagram that has them.
func shades(t *testing.T, d api.Diagram) []int {
	t.Helper()
	l, e := sign.Shades(d)
	if e != api.OK {
		t.Fatal(d, e)
	}
	return l
}

// goeritz: a table and the correction of a diagram that has them.
func goeritz(t *testing.T, d api.Diagram, shade int) ([][]int, int) {
	t.Helper()
	table, correction, e := sign.Goeritz(d, shade)
	if e != api.OK {
		t.Fatal(d, e)
	}
	return table, correction
}

// signature of a diagram that has one.
func signature(t *testing.T, d api.Diagram) int {
	t.Helper()
	n, e := sign.Signature(d)
	if e != api.OK {
		t.Fatal(d, e)
	}
	return n
}

// arf of a knot.
func arf(t *testing.T, d api.Diagram) int {
	t.Helper()
	n, e := sign.Arf(d)
	if e != api.OK || n != 0 && n != 1 {
		t.Fatal(d, n, e)
	}
	return n
}

// single: is it of one piece, without loops? (Chapter 6 takes the same ones.)
func single(d api.Diagram) bool {
	_, e := wind.Genus(d)
	return e == api.OK
}

// singles: many diagrams that the chapter takes: some of just as many crossings as may be, and some most of whose crossings are alike.
func singles() []api.Diagram {
	l := moved.Ones()
	die := samples.Die(91)
	for i := range 60 {
		way := 1 - 2*(i%2)
		l = append(l,
			samples.Weave(4, drawn(&die, api.MaxCross, 1, -2, 3, 1, -2, -1)),
			samples.Weave(3, drawn(&die, 3+i%8, way, 2*way, way, 2*way, -2*way)),
			moved.Once(&die, moved.RingsUpon(1+i%4)))
		for k := len(l) - 3; k < len(l); k++ {
			l[k] = samples.Renamed(&die, moved.Turned(&die, l[k]))
		}
	}
	return slices.DeleteFunc(l, func(d api.Diagram) bool { return !single(d) })
}

// drawn: so many of these letters.
func drawn(die *samples.Die, length int, letters ...int) []int {
	var word []int
	for range length {
		word = append(word, letters[die.Below(len(letters))])
	}
	return word
}

// inner: a table without its first row and its first place in each row.
func inner(table [][]int) [][]int {
	var m [][]int
	for _, row := range table[1:] {
		m = append(m, row[1:])
	}
	return m
}

// inSquares: how many squares with a plus sign there are, less how many with a minus, and the determinant: squares are taken out one by one, with fractions.
func inSquares(numbers [][]int) (signs int, det *big.Rat) {
	m := make([][]*big.Rat, len(numbers))
	for i, row := range numbers {
		for _, n := range row {
			m[i] = append(m[i], big.NewRat(int64(n), 1))
		}
	}
	det = big.NewRat(1, 1)
	for len(m) > 0 {
		if !bringAhead(m) {
			return signs, new(big.Rat)
		}
		signs += m[0][0].Sign()
		det.Mul(det, m[0][0])
		m = without(m)
	}
	return signs, det
}

// bringAhead a number that is not 0, to the first place of the first row: variables are exchanged, or one is added to another; ok: there is one.
func bringAhead(m [][]*big.Rat) (ok bool) {
	for i := range m {
		for j := range i + 1 {
			if m[i][j].Sign() == 0 {
				continue
			}
			if m[i][i].Sign() == 0 && m[j][j].Sign() == 0 {
				for k := range m {
					m[i][k] = new(big.Rat).Add(m[i][k], m[j][k])
				}
				for k := range m {
					m[k][i] = new(big.Rat).Add(m[k][i], m[k][j])
				}
			}
			if m[i][i].Sign() == 0 {
				i = j
			}
			m[0], m[i] = m[i], m[0]
			for k := range m {
				m[k][0], m[k][i] = m[k][i], m[k][0]
			}
			return true
		}
	}
	return false
}

// without the first variable, whose square was taken out.
func without(m [][]*big.Rat) [][]*big.Rat {
	rest := make([][]*big.Rat, len(m)-1)
	for i := range rest {
		for j := range rest {
			less := new(big.Rat).Mul(m[i+1][0], m[0][j+1])
			less.Quo(less, m[0][0])
			rest[i] = append(rest[i], less.Sub(m[i+1][j+1], less))
		}
	}
	return rest
}

// size of a whole number.
func size(t *testing.T, n *big.Rat) int {
	t.Helper()
	if !n.IsInt() || !n.Num().IsInt64() {
		t.Fatal(n)
	}
	whole := int(n.Num().Int64())
	return max(whole, -whole)
}

// The means of these tests: squares and determinants that were worked out by hand.
func TestInSquares(t *testing.T) {
	for _, x := range []struct {
		m          [][]int
		signs, det int
	}{
		{nil, 0, 1},
		{[][]int{{-3}}, -1, -3},
		{[][]int{{0}}, 0, 0},
		{[][]int{{0, 2}, {2, 0}}, 0, -4},
		{[][]int{{0, 2}, {2, 1}}, 0, -4},
		{[][]int{{1, 1}, {1, 1}}, 1, 0},
		{[][]int{{0, 0, 1}, {0, -5, 0}, {1, 0, 0}}, -1, 5},
		{[][]int{{2, -1, 0}, {-1, 2, -1}, {0, -1, 2}}, 3, 4},
		{[][]int{{0, 1, 1}, {1, 0, 1}, {1, 1, 0}}, -1, 2},
		{[][]int{{0, 0, 0}, {0, 0, 3}, {0, 3, 0}}, 0, 0},
	} {
		if signs, det := inSquares(x.m); signs != x.signs || det.Cmp(big.NewRat(int64(x.det), 1)) != 0 {
			t.Error(x.m, signs, det, "wanted:", x.signs, x.det)
		}
	}
}
