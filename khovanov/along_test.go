package khovanov_test

import (
	"slices"
	"testing"

	"knotwork/api"
	"knotwork/canon"
	"knotwork/moved"
	"knotwork/samples"
	"knotwork/terms"
	"knotwork/wind"
)

// What comes of it: ranks are the same along every move; so is Euler's sum.
func TestAlongMoves(t *testing.T) {
	kinds := map[int]int{}
	for i, d := range smallOnes() {
		want, also := ranks(t, d), euler(t, d)
		for _, m := range moved.Steps(d, i) {
			if !taken(m.To) {
				continue
			}
			if want[0].X != 0 || want[len(want)-1].X != 0 {
				kinds[m.Kind]++
			}
			if got := ranks(t, m.To); !slices.Equal(got, want) || !slices.Equal(euler(t, m.To), also) {
				t.Fatal(d, m, got, "wanted:", want)
			}
		}
	}
	for kind := api.Curl; kind <= api.Slide; kind++ {
		if kinds[kind] < 20 {
			t.Error("too few moves of kind", kind, kinds)
		}
	}
}

// P15.2: however crossings and arcs are numbered, and if all parts run the other way round.
func TestRenamed(t *testing.T) {
	die := samples.Die(152)
	for _, d := range smallOnes() {
		want := ranks(t, d)
		if again := samples.Renamed(&die, d); !slices.Equal(ranks(t, again), want) {
			t.Fatal(d, again, ranks(t, again), "wanted:", want)
		}
		if back := moved.Backward(d); !slices.Equal(ranks(t, back), want) {
			t.Fatal(d, back, ranks(t, back), "wanted:", want)
		}
	}
}

// P15.2: if one part runs the other way round, all degrees are moved by how it was linked with the others (chapter 6): no state changes, but crossings are Plus that were not, or the other way round.
func TestReversed(t *testing.T) {
	linked := map[int]int{}
	for _, d := range smallOnes() {
		table, e := wind.Linking(d)
		if e != api.OK {
			t.Fatal(d, e)
		}
		for part, row := range table {
			sum := -row[part]
			for _, n := range row {
				sum += n
			}
			linked[sum]++
			want := terms.Pairs{}
			want.Add(pairs(ranks(t, d)), api.Term2{X: -2 * sum, Z: -6 * sum, Coef: 1})
			other, e := canon.Reverse(d, part)
			if got := ranks(t, other); e != api.OK || !slices.Equal(got, want.InForm()) {
				t.Fatal(d, part, got, "wanted:", want.InForm())
			}
		}
	}
	for _, sum := range []int{-2, -1, 0, 1, 2} {
		if linked[sum] < 5 {
			t.Error("too few are linked", sum, linked)
		}
	}
}

// What comes of it: of the mirror image all degrees have the other sign.
func TestMirrored(t *testing.T) {
	unlike := 0
	for _, d := range smallOnes() {
		got, want := ranks(t, moved.Mirrored(d)), flipped(ranks(t, d))
		if !slices.Equal(got, want) {
			t.Fatal(d, got, "wanted:", want)
		}
		if !slices.Equal(got, ranks(t, d)) {
			unlike++
		}
	}
	if unlike < 60 {
		t.Error("too few:", unlike)
	}
}

// What comes of it: of links that lie apart it is the product; so it is of a sum, with a ring beside.
func TestSums(t *testing.T) {
	die := samples.Die(153)
	ones, sums := smallOnes(), 0
	for range 8000 {
		a, b, both, ok := moved.Summed(&die, ones, most)
		if !ok || !taken(both) {
			continue
		}
		want := product(ranks(t, a), ranks(t, b))
		if got := ranks(t, samples.Beside(a, b)); !slices.Equal(got, want) {
			t.Fatal(a, b, "apart", got, "wanted:", want)
		}
		if got := product(ranks(t, both), ringsApart(1)); !slices.Equal(got, want) {
			t.Fatal(a, b, got, "wanted:", want)
		}
		if len(want) > 6 {
			sums++
		}
	}
	if sums < 60 {
		t.Error("too few sums:", sums)
	}
}
