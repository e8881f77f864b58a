package homfly_test

import (
	"slices"
	"testing"

	"knotwork/alex"
	"knotwork/api"
	"knotwork/bracket"
	"knotwork/moved"
	"knotwork/poly"
	"knotwork/samples"
	"knotwork/sign"
	"knotwork/terms"
	"knotwork/wind"
)

// P11.3: of many diagrams, by powers of z: what all powers of x come to. No power below 0 is left.
func TestConway(t *testing.T) {
	lengths := map[int]int{}
	for _, d := range smallOnes() {
		sum := terms.Work{}
		for _, term := range homflyOf(t, d) {
			sum[term.Z] += term.Coef
		}
		got := conway(t, d)
		if !slices.Equal(got, sum.InForm()) || len(got) > 0 && got[0].Exp < 0 {
			t.Fatal(d, got, "wanted:", sum)
		}
		lengths[len(got)]++
	}
	for length := range 4 {
		if lengths[length] < 10 {
			t.Error("too few of length", length, lengths)
		}
	}
}

// P11.3: it begins with z to the power of how many parts there are but one: of a knot with 1, of two parts with how they are linked (chapter 6). Of a knot what stands behind that is even or odd as Arf is (chapter 9).
func TestConwayBegins(t *testing.T) {
	knots, links := map[int]int{}, map[int]int{}
	for _, d := range smallOnes() {
		work, parts := terms.Of(conway(t, d)), moved.Parts(d)
		for exp := range work {
			if exp < parts-1 || (exp-parts+1)%2 != 0 {
				t.Fatal(d, work)
			}
		}
		if parts == 1 && work[0] != 1 {
			t.Fatal(d, work)
		}
		if arf, e := sign.Arf(d); e == api.OK {
			if work[2]&1 != arf {
				t.Fatal(d, work, "its Arf:", arf)
			}
			knots[arf]++
		}
		if table, e := wind.Linking(d); e == api.OK && len(table) == 2 && parts == 2 {
			if work[1] != table[0][1] {
				t.Fatal(d, work, "linked:", table)
			}
			links[work[1]]++
		}
	}
	if knots[0] < 40 || knots[1] < 40 || links[0] < 10 || links[1] < 10 || links[-1] < 10 || links[2] == 0 || links[-2] == 0 {
		t.Error("too few:", knots, links)
	}
}

// What comes of it: of the mirror image it is P with x^-1 for x and -z for z.
func TestMirrored(t *testing.T) {
	unlike := 0
	for _, d := range smallOnes() {
		got, want := homflyOf(t, moved.Mirrored(d)), image(homflyOf(t, d))
		if !slices.Equal(got, want) {
			t.Fatal(d, got, "wanted:", want)
		}
		if !slices.Equal(got, homflyOf(t, d)) {
			unlike++
		}
	}
	if unlike < 100 {
		t.Error("too few:", unlike)
	}
}

// What comes of it: of a sum it is the product; of links that lie apart it is that times what a ring is worth.
func TestSums(t *testing.T) {
	die := samples.Die(113)
	ones, sums := smallOnes(), 0
	for range 8000 {
		a, b, both, ok := moved.Summed(&die, ones, most)
		if !ok {
			continue
		}
		want := product(homflyOf(t, a), homflyOf(t, b))
		if got := homflyOf(t, both); !slices.Equal(got, want) {
			t.Fatal(a, b, got, "wanted:", want)
		}
		if len(want) > 3 {
			sums++
		}
		want = product(want, ringsApart(2))
		if got := homflyOf(t, samples.Beside(a, b)); !slices.Equal(got, want) {
			t.Fatal(a, b, "apart", got, "wanted:", want)
		}
	}
	if sums < 60 {
		t.Error("too few sums:", sums)
	}
}

// power of a polynomial.
func power(p terms.Work, n int) terms.Work {
	all := terms.Work{0: 1}
	for range n {
		all = all.Times(p)
	}
	return all
}

// What comes of it: where x is A^4 and z is A^-2 - A^2 it is Jones's polynomial (chapter 10). Both are held against each other times z to a power, so that none below 0 is left.
func TestJones(t *testing.T) {
	long := 0
	z := terms.Of(read("t^-2 - t^2"))
	for _, d := range smallOnes() {
		jones, e := bracket.Jones(d)
		if e != api.OK {
			t.Fatal(d, e)
		}
		lift := moved.Parts(d) - 1
		sum := terms.Work{}
		for _, term := range homflyOf(t, d) {
			sum = sum.Plus(power(z, term.Z+lift).Times(terms.Work{4 * term.X: term.Coef}))
		}
		if want := terms.Of(jones).Times(power(z, lift)).InForm(); !slices.Equal(sum.InForm(), want) {
			t.Fatal(d, sum.InForm(), "wanted:", want)
		}
		if len(jones) > 4 {
			long++
		}
	}
	if long < 60 {
		t.Error("too few:", long)
	}
}

// What comes of it: where x is 1 and z is t^(1/2) - t^(-1/2) it is Alexander's polynomial (chapter 8), but for Unit. The variable here is the root of t.
func TestAlexander(t *testing.T) {
	long := 0
	z := terms.Of(read("-t^-1 + t"))
	for _, d := range smallOnes() {
		a, e := alex.Alexander(d)
		if e != api.OK {
			t.Fatal(d, e)
		}
		want := terms.Work{}
		for _, term := range a {
			want[2*term.Exp] = term.Coef
		}
		sum := terms.Work{}
		for _, term := range conway(t, d) {
			sum = sum.Plus(power(z, term.Exp).Times(terms.Work{0: term.Coef}))
		}
		got, e := poly.Unit(sum.InForm())
		if e != api.OK || !slices.Equal(got, want.InForm()) {
			t.Fatal(d, got, e, "wanted:", want)
		}
		if len(a) > 2 {
			long++
		}
	}
	if long < 60 {
		t.Error("too few:", long)
	}
}
