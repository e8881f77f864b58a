package bracket_test

import (
	"testing"

	"knotwork/alex"
	"knotwork/api"
	"knotwork/bracket"
	"knotwork/moved"
	"knotwork/samples"
	"knotwork/sign"
	"knotwork/wind"
)

// odd: those of the diagrams that have an odd number of parts, so that all exponents are multiples of 4.
func odd(ones []api.Diagram) []api.Diagram {
	var l []api.Diagram
	for _, d := range ones {
		if moved.Parts(d)%2 == 1 {
			l = append(l, d)
		}
	}
	return l
}

// P10.3: values that were worked out by hand, of each power of i.
func TestAtByHand(t *testing.T) {
	for _, x := range []struct {
		what string
		d    api.Diagram
		want [4]int
	}{
		{"a loop", samples.With(1), [4]int{1, 1, 1, 1}},
		{"three loops", samples.With(3), [4]int{4, 2, 0, 2}},
		{"five loops", samples.With(5), [4]int{16, 4, 0, 4}},
		{"the trefoil", samples.Trefoil(), [4]int{1, -1, -3, -1}},
		{"the figure of eight", samples.Weave(3, []int{1, -2, 1, -2}), [4]int{1, -1, 5, -1}},
		{"five crossings, the second", samples.Weave(3, []int{1, 1, 1, 2, -1, 2}), [4]int{1, 1, -7, 1}},
		{"three rings in a row", samples.Weave(3, []int{1, 1, 2, 2}), [4]int{4, 0, -4, 0}},
		{"Borromeo's rings", samples.Weave(3, []int{1, -2, 1, -2, 1, -2}), [4]int{4, -2, 16, -2}},
		{"as many rings as there are", samples.Beside(moved.CurlsApart(11, 0), samples.With(api.MaxLoops)), [4]int{1 << 26, 1 << 13, 0, 1 << 13}},
	} {
		for k, want := range x.want {
			if re, im := at(t, x.d, k); re != want || im != 0 {
				t.Error(x.what, k, re, im, "wanted:", want)
			}
		}
	}
}

// P10.3: of many diagrams, term by term, in whole numbers.
func TestAt(t *testing.T) {
	values := map[int]int{}
	for _, d := range odd(smallOnes()) {
		for k := range 4 {
			var turns [4]int // coefficients, by how often their term is turned by i
			for _, term := range jones(t, d) {
				if term.Exp%4 != 0 {
					t.Fatal(d, term)
				}
				turns[((-term.Exp/4*k)%4+4)%4] += term.Coef
			}
			re, im := at(t, d, k)
			if re != turns[0]-turns[2] || im != turns[1]-turns[3] {
				t.Fatal(d, k, re, im, "wanted:", turns)
			}
			values[re]++
		}
	}
	for _, value := range []int{-7, -3, -2, -1, 0, 1, 2, 4, 5, 8, 13, 16} {
		if values[value] == 0 {
			t.Error("no value was", value, values)
		}
	}
}

// P10.3: links of an even number of parts have other exponents.
func TestAtKind(t *testing.T) {
	refused := 0
	for _, d := range smallOnes() {
		if moved.Parts(d)%2 == 1 {
			continue
		}
		refused++
		for k := range 4 {
			if z, e := bracket.At(d, k); z != 0 || e != api.ErrKind {
				t.Fatal(d, k, z, e)
			}
		}
	}
	if refused < 200 {
		t.Error("too few:", refused)
	}
}

// What comes of it: where t is 1, each part but one counts -2; where it is -1, the size is chapter 8's determinant.
func TestAtOnes(t *testing.T) {
	great := 0
	for _, d := range odd(smallOnes()) {
		want := 1
		for range moved.Parts(d) - 1 {
			want *= -2
		}
		if re, im := at(t, d, 0); re != want || im != 0 {
			t.Fatal(d, re, im, "wanted:", want)
		}
		det, e := alex.Determinant(d)
		if e != api.OK {
			continue
		}
		if re, im := at(t, d, 2); max(re, -re) != det || im != 0 {
			t.Fatal(d, re, im, "wanted:", det)
		}
		if det > 4 {
			great++
		}
	}
	if great < 30 {
		t.Error("too few:", great)
	}
}

// What comes of it: of the mirror image, and where t is -i in place of i, the value is that with the other sign of i.
func TestAtTurned(t *testing.T) {
	for _, d := range odd(smallOnes()) {
		image := moved.Mirrored(d)
		for k := range 4 {
			re, im := at(t, d, k)
			if x, y := at(t, image, k); x != re || y != -im {
				t.Fatal(d, k, re, im, "mirrored:", x, y)
			}
			if x, y := at(t, d, (4-k)%4); x != re || y != -im {
				t.Fatal(d, k, re, im, "turned:", x, y)
			}
		}
	}
}

// What comes of it (chapter 9): Arf of a knot is 0 just if the value where t is i is 1; else it is -1.
func TestArf(t *testing.T) {
	var knots [2]int
	for _, d := range smallOnes() {
		arf, e := sign.Arf(d)
		if e != api.OK {
			continue
		}
		knots[arf]++
		if re, im := at(t, d, 1); re != 1-2*arf || im != 0 {
			t.Fatal(d, re, im, "its Arf:", arf)
		}
	}
	if knots[0] < 40 || knots[1] < 40 {
		t.Error("too few:", knots)
	}
}

// What comes of it: where t is i, the value is 0 if a part is linked to the others an odd number of times; else each two parts more make its size twice as great.
func TestAtProper(t *testing.T) {
	zero, whole := 0, 0
	for _, d := range odd(smallOnes()) {
		table, e := wind.Linking(d)
		if e != api.OK {
			t.Fatal(d, e)
		}
		want := 1 << (moved.Parts(d) / 2)
		for i, row := range table {
			sum := 0
			for j, n := range row {
				if j != i {
					sum += n
				}
			}
			if sum%2 != 0 {
				want = 0
			}
		}
		if re, im := at(t, d, 1); max(re, -re) != want || im != 0 {
			t.Fatal(d, re, im, "wanted:", want)
		}
		if want == 0 {
			zero++
		} else if want > 1 {
			whole++
		}
	}
	if zero < 20 || whole < 20 {
		t.Error("too few:", zero, whole)
	}
}
