package closure_test

import (
	"slices"
	"testing"

	"knotwork/api"
	"knotwork/braid"
	"knotwork/poly"
	"knotwork/samples"
	"knotwork/terms"
)

// P14.2: worked out by hand.
func TestBurauByHand(t *testing.T) {
	for _, x := range []struct {
		n    int
		word []int
		want [][]string
	}{
		{2, nil, [][]string{{"1", "0"}, {"0", "1"}}},
		{2, []int{1}, [][]string{{"1 - t", "t"}, {"1", "0"}}},
		{2, []int{-1}, [][]string{{"0", "1"}, {"t^-1", "-t^-1 + 1"}}},
		{2, []int{1, -1}, [][]string{{"1", "0"}, {"0", "1"}}},
		{2, []int{-1, 1}, [][]string{{"1", "0"}, {"0", "1"}}},
		{2, []int{1, 1}, [][]string{{"1 - t + t^2", "t - t^2"}, {"1 - t", "t"}}},
		{2, []int{-1, -1}, [][]string{{"t^-1", "-t^-1 + 1"}, {"-t^-2 + t^-1", "t^-2 - t^-1 + 1"}}},
		{3, []int{}, [][]string{{"1", "0", "0"}, {"0", "1", "0"}, {"0", "0", "1"}}},
		{3, []int{2}, [][]string{{"1", "0", "0"}, {"0", "1 - t", "t"}, {"0", "1", "0"}}},
		{3, []int{-2}, [][]string{{"1", "0", "0"}, {"0", "0", "1"}, {"0", "t^-1", "-t^-1 + 1"}}},
		{3, []int{1, 2}, [][]string{{"1 - t", "t - t^2", "t^2"}, {"1", "0", "0"}, {"0", "1", "0"}}},
		{3, []int{2, 1}, [][]string{{"1 - t", "t", "0"}, {"1 - t", "0", "t"}, {"1", "0", "0"}}},
		{3, []int{1, -2}, [][]string{{"1 - t", "0", "t"}, {"1", "0", "0"}, {"0", "t^-1", "-t^-1 + 1"}}},
	} {
		if got := texts(t, burau(t, x.n, x.word)); !slices.EqualFunc(got, x.want, slices.Equal[[]string]) {
			t.Error(x.n, x.word, got, "wanted:", x.want)
		}
	}
}

// P14.2: of many braids, place by place, by whole tables that are multiplied as the chapter's words say.
func TestBurau(t *testing.T) {
	for _, x := range toTable() {
		if got, want := burau(t, x.Strands, x.Word), burauByWords(x.Strands, x.Word); !alike(got, want) {
			t.Fatal(x, got, "wanted:", want)
		}
	}
}

// P14.2: as many letters as may be: exponents go up and down as far as they can, and coefficients grow.
func TestBurauEdges(t *testing.T) {
	up := burau(t, 2, slices.Repeat([]int{1}, api.MaxWord))
	if first, last := up[0][0][0], up[0][0][api.MaxWord]; first != (api.Term{Exp: 0, Coef: 1}) || last != (api.Term{Exp: api.MaxWord, Coef: 1}) {
		t.Error(up)
	}
	down := burau(t, 6, slices.Repeat([]int{-5}, api.MaxWord))
	if first := down[5][5][0]; first != (api.Term{Exp: -api.MaxWord, Coef: 1}) {
		t.Error(down)
	}
	word := slices.Repeat([]int{1, -2}, api.MaxWord/2)
	wild, greatest := burau(t, 3, word), 0
	for _, place := range slices.Concat(wild...) {
		for _, term := range place {
			greatest = max(greatest, size(term.Coef))
		}
	}
	if greatest < 1000 || !alike(wild, burauByWords(3, word)) {
		t.Error(greatest, wild)
	}
}

// What comes of it: words that are one braid have the same table; of three strands at most, others have not.
func TestBurauOfRewritten(t *testing.T) {
	die := samples.Die(145)
	found := map[bool]int{}
	for i := range 1000 {
		n := 2 + i%5
		word := samples.DrawnWord(&die, n, 2+die.Below(api.MaxWord-1))
		again := samples.Rewritten(&die, n, word, api.MaxWord)
		want := burau(t, n, word)
		if !alike(burau(t, n, again), want) {
			t.Fatal(n, word, again)
		}
		if n > 3 {
			continue
		}
		other := slices.Clone(word)
		k := die.Below(len(other) - 1)
		other[k], other[k+1] = other[k+1], other[k]
		same, e := braid.Equal(n, other, word)
		if alike(burau(t, n, other), want) != same || e != api.OK {
			t.Fatal(n, word, other, same, e)
		}
		found[same]++
	}
	if found[true] < 50 || found[false] < 50 {
		t.Error("too few:", found)
	}
}

// P14.2: the table of a word is that of its beginning times that of its end; in this order.
func TestBurauOfTwo(t *testing.T) {
	die := samples.Die(146)
	for i := range 300 {
		n := 2 + i%5
		u, v := samples.DrawnWord(&die, n, die.Below(8)), samples.DrawnWord(&die, n, die.Below(8))
		a, b, both := burau(t, n, u), burau(t, n, v), burau(t, n, slices.Concat(u, v))
		for row := range n {
			for place := range n {
				sum := terms.Work{}
				for k := range n {
					sum = sum.Plus(terms.Of(a[row][k]).Times(terms.Of(b[k][place])))
				}
				if !slices.Equal(sum.InForm(), both[row][place]) {
					t.Fatal(n, u, v, row, place)
				}
			}
		}
	}
}

// P14.2: what all letters' tables have in common: the places of a row are 1 together; where t is 1, the one that is not 0 is that where the row's strand ends.
func TestBurauRows(t *testing.T) {
	for _, x := range toTable() {
		ends, e := braid.Ends(x.Strands, x.Word)
		if e != api.OK {
			t.Fatal(x, e)
		}
		for row, places := range burau(t, x.Strands, x.Word) {
			sum := terms.Work{}
			for place, p := range places {
				sum = sum.Plus(terms.Of(p))
				value := 0
				for _, term := range p {
					value += term.Coef
				}
				if (value == 1) != (ends[row] == place+1) || value != 0 && value != 1 {
					t.Fatal(x, row, place, p)
				}
			}
			if !slices.Equal(sum.InForm(), []api.Term{{Exp: 0, Coef: 1}}) {
				t.Fatal(x, row, places)
			}
		}
	}
}

// P14.2: each letter above 0 gives the determinant -t, each one below 0 its reciprocal.
func TestBurauDeterminant(t *testing.T) {
	asked := 0
	for _, x := range toTable() {
		got, e := poly.Det(burau(t, x.Strands, x.Word))
		if e == api.ErrRange { // chapter 1 takes no such great coefficients
			continue
		}
		asked++
		want := api.Term{Coef: 1}
		for _, letter := range x.Word {
			want.Coef = -want.Coef
			want.Exp += letter / size(letter)
		}
		if e != api.OK || !slices.Equal(got, []api.Term{want}) {
			t.Fatal(x, got, e, "wanted:", want)
		}
	}
	if asked < 3000 {
		t.Error("too few:", asked)
	}
}
