package alex_test

import (
	"slices"
	"testing"

	"knotwork/api"
	"knotwork/colour"
	"knotwork/moved"
	"knotwork/poly"
	"knotwork/samples"
)

// P8.3: the size of the polynomial's value at -1; some of these values are below 0.
func TestDeterminant(t *testing.T) {
	ones, below := smallOnes(), 0
	for _, word := range [][]int{{1, 1, 1, 2, -1, 2, 1, 1, 2, 2}, {-1, -1, -1, -2, 1, -2, -1, -1, -2, -2}} {
		ones = append(ones, samples.Weave(3, word))
	}
	for _, d := range ones {
		value, e := poly.At(alexander(t, d), -1)
		if e != api.OK || determinant(t, d) != max(value, -value) {
			t.Fatal(d, value, e, determinant(t, d))
		}
		if value < 0 {
			below++
		}
	}
	if below < 2 {
		t.Error("too few values below 0:", below)
	}
}

// What comes of it: the polynomial is the same along every move.
func TestAlongMoves(t *testing.T) {
	kinds := map[int]int{}
	for i, d := range smallOnes() {
		want, det := alexander(t, d), determinant(t, d)
		for _, m := range moved.Steps(d, i) {
			if len(m.To.Crosses) > most {
				continue
			}
			if len(want) > 1 {
				kinds[m.Kind]++
			}
			if got := alexander(t, m.To); !slices.Equal(got, want) || determinant(t, m.To) != det {
				t.Fatal(d, m, got, "wanted:", want)
			}
		}
	}
	for kind := api.Curl; kind <= api.Slide; kind++ {
		if kinds[kind] < 20 {
			t.Error("too few moves of kind", kind, kinds)
		}
	}
}

// What comes of it: of a knot the value at 1 is 1 or -1, and flipped it is itself; of a link at 1 it is 0. So mirror images and reversed links have the same.
func TestSymmetry(t *testing.T) {
	knots := 0
	for _, d := range smallOnes() {
		a := alexander(t, d)
		value, e := poly.At(a, 1)
		if e != api.OK || moved.Knot(d) != (value == 1 || value == -1) || !moved.Knot(d) && value != 0 {
			t.Fatal(d, a, value, e)
		}
		if moved.Knot(d) && len(a) > 1 {
			knots++
		}
		flipped, _ := poly.Flip(a)
		if !slices.Equal(unit(t, flipped), a) {
			t.Fatal(d, a, flipped)
		}
		if m, r := alexander(t, moved.Mirrored(d)), alexander(t, moved.Backward(d)); !slices.Equal(m, a) || !slices.Equal(r, a) {
			t.Fatal(d, a, "mirrored:", m, "reversed:", r)
		}
	}
	if knots < 40 {
		t.Error("too few knots:", knots)
	}
}

// What comes of it: of a sum it is the product; of links that lie apart it is 0.
func TestSums(t *testing.T) {
	die := samples.Die(82)
	ones, sums := smallOnes(), 0
	for range 8000 {
		a, b, both, ok := moved.Summed(&die, ones, most)
		if !ok || both.Loops > 1 {
			continue
		}
		apart := samples.Beside(a, b)
		if x, n := alexander(t, apart), determinant(t, apart); len(x) != 0 || n != 0 {
			t.Fatal(apart, x, n)
		}
		want, e := poly.Mul(alexander(t, a), alexander(t, b))
		if e != api.OK {
			t.Fatal(a, b, e)
		}
		if got := alexander(t, both); !slices.Equal(got, unit(t, want)) || determinant(t, both) != determinant(t, a)*determinant(t, b) {
			t.Fatal(a, b, got, "wanted:", want)
		}
		if len(want) > 2 {
			sums++
		}
	}
	if sums < 60 {
		t.Error("too few sums:", sums)
	}
}

// What comes of it: of one piece there are colourings modulo a prime that are not of one colour just if it divides the determinant.
func TestColourings(t *testing.T) {
	more := map[int]int{}
	for _, d := range smallOnes() {
		if d.Loops+pieces(d) > 1 {
			continue
		}
		det := determinant(t, d)
		for _, p := range []int{2, 3, 5, 7, 11, 13, 17, 19, 23, 29, 31, 37, 41, 43, 47, 53, 59, 61, 67, 71, 73, 79, 83, 89, 97} {
			free, e := colour.Fox(d, p)
			if e != api.OK || (free > 1) != (det%p == 0) {
				t.Fatal(d, "modulo", p, free, e, "its determinant:", det)
			}
			if free > 1 && det > 0 {
				more[p]++
			}
		}
	}
	for _, p := range []int{2, 3, 5, 7} {
		if more[p] < 5 {
			t.Error("too few modulo", p, more)
		}
	}
}

// What comes of it: of a braid's closure, the polynomial by the braid's table of places (chapter 14), worked out here.
func TestBraids(t *testing.T) {
	die := samples.Die(83)
	for range 300 {
		strands := 2 + die.Below(4)
		var word []int
		for range 1 + die.Below(most) {
			word = append(word, (1+die.Below(strands-1))*(1-2*die.Below(2)))
		}
		d := samples.Weave(strands, word)
		if got, want := alexander(t, d), byPlaces(t, strands, word); !slices.Equal(got, want) {
			t.Fatal(strands, word, got, "wanted:", want)
		}
	}
}

// byPlaces: the determinant of 1 less a braid's table, without its last row and place, as Unit tells it.
func byPlaces(t *testing.T, strands int, word []int) []api.Term {
	t.Helper()
	m := make(table, strands)
	for i := range m {
		m[i] = make([][]api.Term, strands)
		m[i][i] = read(t, "1")
	}
	for _, letter := range word {
		at, block := letter-1, [4]string{"1 - t", "t", "1", "0"}
		if letter < 0 {
			at, block = -letter-1, [4]string{"0", "1", "t^-1", "-t^-1 + 1"}
		}
		for i := range m {
			left, right := m[i][at], m[i][at+1]
			m[i][at] = sumOfProducts(t, left, read(t, block[0]), right, read(t, block[2]))
			m[i][at+1] = sumOfProducts(t, left, read(t, block[1]), right, read(t, block[3]))
		}
	}
	m = m[:strands-1]
	for i := range m {
		m[i] = m[i][:strands-1]
		for j := range m[i] {
			one := []api.Term{}
			if i == j {
				one = read(t, "1")
			}
			m[i][j] = sumOfProducts(t, one, read(t, "1"), m[i][j], read(t, "-1"))
		}
	}
	det, e := poly.Det(m)
	if e != api.OK {
		t.Fatal(strands, word, e)
	}
	return unit(t, det)
}

// sumOfProducts: a times b, and c times d.
func sumOfProducts(t *testing.T, a, b, c, d []api.Term) []api.Term {
	t.Helper()
	x, e := poly.Mul(a, b)
	y, f := poly.Mul(c, d)
	sum, g := poly.Add(x, y)
	if e != api.OK || f != api.OK || g != api.OK {
		t.Fatal(e, f, g)
	}
	return sum
}
