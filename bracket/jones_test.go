package bracket_test

import (
	"slices"
	"testing"

	"knotwork/api"
	"knotwork/moved"
	"knotwork/samples"
	"knotwork/terms"
	"knotwork/wind"
)

// inRoots: a polynomial by its coefficients, where A to the power of minus 2 is the root of t: from the first power of that root on, each two more.
func inRoots(first int, coefs []int) []api.Term {
	p := terms.Work{}
	for i, coef := range coefs {
		p[-2*(first+2*i)] = coef
	}
	return p.InForm()
}

// P10.2: knots and links whose polynomials are known.
func TestKnown(t *testing.T) {
	for _, x := range []struct {
		what    string
		strands int
		word    []int
		first   int
		coefs   []int
	}{
		{"a ring of one curl", 2, []int{1}, 0, []int{1}},
		{"a ring of two curls", 3, []int{1, -2}, 0, []int{1}},
		{"the trefoil", 2, []int{1, 1, 1}, 2, []int{1, 0, 1, -1}},
		{"the figure of eight", 3, []int{1, -2, 1, -2}, -4, []int{1, -1, 1, -1, 1}},
		{"five crossings, the first", 2, []int{1, 1, 1, 1, 1}, 4, []int{1, 0, 1, -1, 1, -1}},
		{"five crossings, the second", 3, []int{1, 1, 1, 2, -1, 2}, 2, []int{1, -1, 2, -1, 1, -1}},
		{"six crossings, the second", 3, []int{-1, -1, -1, 2, -1, 2}, -10, []int{1, -2, 2, -2, 2, -1, 1}},
		{"six crossings, the third", 3, []int{-1, -1, 2, -1, 2, 2}, -6, []int{-1, 2, -2, 3, -2, 2, -1}},
		{"seven crossings, the first", 2, []int{1, 1, 1, 1, 1, 1, 1}, 6, []int{1, 0, 1, -1, 1, -1, 1, -1}},
		{"eight crossings, the 18th", 3, []int{1, -2, 1, -2, 1, -2, 1, -2}, -8, []int{1, -4, 6, -7, 9, -7, 6, -4, 1}},
		{"eight crossings, the 19th", 3, []int{1, 1, 1, 2, 1, 1, 1, 2}, 6, []int{1, 0, 1, 0, 0, -1}},
		{"eight crossings, the 20th", 3, []int{1, 1, 1, -2, -1, -1, -1, -2}, -10, []int{-1, 1, -1, 2, -1, 2, -1}},
		{"eight crossings, the 21st", 3, []int{1, 1, 1, 2, -1, -1, 2, 2}, 2, []int{2, -2, 3, -3, 2, -2, 1}},
		{"ten crossings, the 124th", 3, []int{1, 1, 1, 1, 1, 2, 1, 1, 1, 2}, 8, []int{1, 0, 1, 0, 0, 0, -1}},
		{"ten crossings, the 139th", 3, []int{1, 1, 1, 1, 2, 1, 1, 1, 2, 2}, 8, []int{1, 0, 1, 0, -1, 1, -1, 1, -1}},
		{"no knot, of ten crossings", 3, []int{1, 2, 1, 2, 1, -2, -1, -2, -1, 2}, 0, []int{1}},
		{"two rings that part", 2, []int{1, -1}, -1, []int{-1, -1}},
		{"two rings, linked", 2, []int{1, 1}, 1, []int{-1, 0, -1}},
		{"two rings, linked twice", 2, []int{1, 1, 1, 1}, 3, []int{-1, 0, -1, 1, -1}},
		{"Whitehead's link", 3, []int{1, -2, 1, -2, -2}, -7, []int{1, -2, 1, -2, 1, -1}},
		{"Borromeo's rings", 3, []int{1, -2, 1, -2, 1, -2}, -6, []int{-1, 3, -2, 4, -2, 3, -1}},
	} {
		d, want := samples.Weave(x.strands, x.word), inRoots(x.first, x.coefs)
		if got := jones(t, d); !slices.Equal(got, want) {
			t.Error(x.what, got, "wanted:", want)
		}
		if got := jones(t, moved.Mirrored(d)); !slices.Equal(got, flipped(want)) {
			t.Error(x.what, "mirrored", got, "wanted:", flipped(want))
		}
	}
}

// The chapter's examples: the trefoil of chapter 2, and two rings far apart.
func TestExamples(t *testing.T) {
	for _, x := range []struct {
		what string
		d    api.Diagram
		want string
	}{{"the trefoil", samples.Trefoil(), "t^4 + t^12 - t^16"}, {"two rings", samples.With(2), "-t^-2 - t^2"}} {
		if got := jones(t, x.d); !slices.Equal(got, read(x.want)) {
			t.Error(x.what, got, "wanted:", x.want)
		}
	}
}

// P10.2: of many diagrams, by the bracket and the writhe: minus A^3 is taken out, or put in, one by one.
func TestJones(t *testing.T) {
	writhes := map[int]int{}
	for _, d := range smallOnes() {
		writhe, e := wind.Writhe(d)
		if e != api.OK {
			t.Fatal(d, e)
		}
		writhes[writhe]++
		one := []api.Term{{Exp: -3, Coef: -1}}
		if writhe < 0 {
			one[0].Exp = 3
		}
		want := bracketOf(t, d)
		for range max(writhe, -writhe) {
			want = product(want, one)
		}
		if got := jones(t, d); !slices.Equal(got, want) {
			t.Fatal(d, writhe, got, "wanted:", want)
		}
	}
	for writhe := -4; writhe <= 4; writhe++ {
		if writhes[writhe] < 5 {
			t.Error("too few of writhe", writhe, writhes)
		}
	}
}

// P10.2: knots on a torus, of p strands and q turns.
func TestOnTorus(t *testing.T) {
	asked := 0
	for p := 2; p <= most+1; p++ {
		for q := 1; (p-1)*q <= most; q++ {
			var turn []int
			for letter := 1; letter < p; letter++ {
				turn = append(turn, letter)
			}
			d := samples.Weave(p, slices.Repeat(turn, q))
			if !moved.Knot(d) {
				continue
			}
			asked++
			// 1 - t^2 times it is t^((p-1)(q-1)/2) times 1 - t^(p+1) - t^(q+1) + t^(p+q).
			got := product(jones(t, d), read("-t^-8 + 1"))
			want := terms.Work{}
			for _, x := range []api.Term{{Exp: 0, Coef: 1}, {Exp: p + 1, Coef: -1}, {Exp: q + 1, Coef: -1}, {Exp: p + q, Coef: 1}} {
				want[-2*(p-1)*(q-1)-4*x.Exp] += x.Coef
			}
			if !slices.Equal(got, want.InForm()) {
				t.Error(p, q, got, "wanted:", want.InForm())
			}
		}
	}
	if asked < 20 {
		t.Error("too few:", asked)
	}
}

// P10.2: what a crossing that is Plus, one that is not, and none at that place make: A^4 times the first less A^-4 times the second is A^-2 - A^2 times the third.
func TestThreeTogether(t *testing.T) {
	asked, more := 0, 0
	for _, d := range smallOnes() {
		if len(d.Crosses) > 9 {
			continue
		}
		for k, c := range d.Crosses {
			plus, minus, none := d, moved.Exchanged(d, k), moved.Undone(d, k)
			if !c.Plus {
				plus, minus = minus, plus
			}
			if none.Loops > api.MaxLoops {
				continue
			}
			asked++
			if none.Loops > d.Loops {
				more++
			}
			left := terms.Of(product(jones(t, plus), read("t^4"))).Plus(terms.Of(product(jones(t, minus), read("-t^-4")))).InForm()
			if right := product(jones(t, none), read("t^-2 - t^2")); !slices.Equal(left, right) {
				t.Fatal(d, "at crossing", k, left, "wanted:", right)
			}
		}
	}
	if asked < 1000 || more < 100 {
		t.Error("too few:", asked, more)
	}
}

// What comes of it: the bracket is the same along every Push, Pull and Slide; Jones's polynomial along every move.
func TestAlongMoves(t *testing.T) {
	kinds := map[int]int{}
	for i, d := range smallOnes() {
		one, other := bracketOf(t, d), jones(t, d)
		for _, m := range moved.Steps(d, i) {
			if len(m.To.Crosses) > most {
				continue
			}
			if len(other) > 2 {
				kinds[m.Kind]++
			}
			if got := jones(t, m.To); !slices.Equal(got, other) {
				t.Fatal(d, m, got, "wanted:", other)
			}
			curled := m.Kind == api.Curl || m.Kind == api.Uncurl
			if got := bracketOf(t, m.To); slices.Equal(got, one) == curled {
				t.Fatal(d, m, got, "before:", one)
			}
		}
	}
	for kind := api.Curl; kind <= api.Slide; kind++ {
		if kinds[kind] < 20 {
			t.Error("too few moves of kind", kind, kinds)
		}
	}
}

// What comes of it: of the mirror image both are flipped.
func TestMirrored(t *testing.T) {
	unlike := 0
	for _, d := range smallOnes() {
		image := moved.Mirrored(d)
		if got, want := bracketOf(t, image), flipped(bracketOf(t, d)); !slices.Equal(got, want) {
			t.Fatal(d, got, "wanted:", want)
		}
		got, want := jones(t, image), flipped(jones(t, d))
		if !slices.Equal(got, want) {
			t.Fatal(d, got, "wanted:", want)
		}
		if !slices.Equal(got, jones(t, d)) {
			unlike++
		}
	}
	if unlike < 100 {
		t.Error("too few:", unlike)
	}
}

// What comes of it: of a sum it is the product; of links that lie apart it is that times what a ring is worth.
func TestSums(t *testing.T) {
	die := samples.Die(103)
	ones, sums := smallOnes(), 0
	for range 3000 {
		a, b, both, ok := moved.Summed(&die, ones, most)
		if !ok {
			continue
		}
		want := product(jones(t, a), jones(t, b))
		if got := jones(t, both); !slices.Equal(got, want) {
			t.Fatal(a, b, got, "wanted:", want)
		}
		if len(want) > 3 {
			sums++
		}
		want = product(want, ringsApart(2))
		if got := jones(t, samples.Beside(a, b)); !slices.Equal(got, want) {
			t.Fatal(a, b, "apart", got, "wanted:", want)
		}
	}
	if sums < 60 {
		t.Error("too few sums:", sums)
	}
}
