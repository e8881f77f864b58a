package homfly_test

import (
	"slices"
	"testing"

	"knotwork/api"
	"knotwork/homfly"
	"knotwork/moved"
	"knotwork/samples"
)

// The chapter's example: the trefoil of chapter 2.
func TestExamples(t *testing.T) {
	if got, want := homflyOf(t, samples.Trefoil()), byZ(map[int]string{0: "2*t^2 - t^4", 2: "t^2"}); !slices.Equal(got, want) {
		t.Error(got, "wanted:", want)
	}
	if got, want := conway(t, samples.Trefoil()), read("1 + t^2"); !slices.Equal(got, want) {
		t.Error(got, "wanted:", want)
	}
}

// P11.2, P11.3: knots and links whose polynomials are known.
func TestKnown(t *testing.T) {
	for _, x := range []struct {
		what    string
		strands int
		word    []int
		want    map[int]string
		conway  string
	}{
		{"a ring of one curl", 2, []int{1}, map[int]string{0: "1"}, "1"},
		{"a ring of two curls", 3, []int{1, -2}, map[int]string{0: "1"}, "1"},
		{"the trefoil", 2, []int{1, 1, 1}, map[int]string{0: "-t^-4 + 2*t^-2", 2: "t^-2"}, "1 + t^2"},
		{"the figure of eight", 3, []int{1, -2, 1, -2}, map[int]string{0: "t^-2 - 1 + t^2", 2: "-1"}, "1 - t^2"},
		{"five crossings, the first", 2, []int{1, 1, 1, 1, 1}, map[int]string{0: "-2*t^-6 + 3*t^-4", 2: "-t^-6 + 4*t^-4", 4: "t^-4"}, "1 + 3*t^2 + t^4"},
		{"five crossings, the second", 3, []int{1, 1, 1, 2, -1, 2}, map[int]string{0: "-t^-6 + t^-4 + t^-2", 2: "t^-4 + t^-2"}, "1 + 2*t^2"},
		{"six crossings, the first", 4, []int{1, 1, 2, -1, -3, 2, -3}, map[int]string{0: "t^-4 - t^-2 + t^2", 2: "-t^-2 - 1"}, "1 - 2*t^2"},
		{"six crossings, the second", 3, []int{-1, -1, -1, 2, -1, 2}, map[int]string{0: "2 - 2*t^2 + t^4", 2: "1 - 3*t^2 + t^4", 4: "-t^2"}, "1 - t^2 - t^4"},
		{"six crossings, the third", 3, []int{-1, -1, 2, -1, 2, 2}, map[int]string{0: "-t^-2 + 3 - t^2", 2: "-t^-2 + 3 - t^2", 4: "1"}, "1 + t^2 + t^4"},
		{"seven crossings, the first", 2, []int{1, 1, 1, 1, 1, 1, 1}, map[int]string{0: "-3*t^-8 + 4*t^-6", 2: "-4*t^-8 + 10*t^-6", 4: "-t^-8 + 6*t^-6", 6: "t^-6"}, "1 + 6*t^2 + 5*t^4 + t^6"},
		{"eight crossings, the 18th", 3, []int{1, -2, 1, -2, 1, -2, 1, -2}, map[int]string{0: "-t^-2 + 3 - t^2", 2: "t^-2 - 1 + t^2", 4: "t^-2 - 3 + t^2", 6: "-1"}, "1 + t^2 - t^4 - t^6"},
		{"eight crossings, the 19th", 3, []int{1, 1, 1, 2, 1, 1, 1, 2}, map[int]string{0: "t^-10 - 5*t^-8 + 5*t^-6", 2: "-5*t^-8 + 10*t^-6", 4: "-t^-8 + 6*t^-6", 6: "t^-6"}, "1 + 5*t^2 + 5*t^4 + t^6"},
		{"eight crossings, the 20th", 3, []int{1, 1, 1, -2, -1, -1, -1, -2}, map[int]string{0: "-1 + 4*t^2 - 2*t^4", 2: "-1 + 4*t^2 - t^4", 4: "t^2"}, "1 + 2*t^2 + t^4"},
		{"eight crossings, the 21st", 3, []int{1, 1, 1, 2, -1, -1, 2, 2}, map[int]string{0: "t^-6 - 3*t^-4 + 3*t^-2", 2: "t^-6 - 3*t^-4 + 2*t^-2", 4: "-t^-4"}, "1 - t^4"},
		{"two rings that part", 2, []int{1, -1}, map[int]string{-1: "-t^-1 + t"}, "0"},
		{"two rings, linked", 2, []int{1, 1}, map[int]string{-1: "-t^-3 + t^-1", 1: "t^-1"}, "t"},
		{"two rings, linked twice", 2, []int{1, 1, 1, 1}, map[int]string{-1: "-t^-5 + t^-3", 1: "-t^-5 + 3*t^-3", 3: "t^-3"}, "2*t + t^3"},
		{"Whitehead's link", 3, []int{1, -2, 1, -2, -2}, map[int]string{-1: "-t^-1 + t", 1: "-t^-1 + 2*t - t^3", 3: "t"}, "t^3"},
		{"Borromeo's rings", 3, []int{1, -2, 1, -2, 1, -2}, map[int]string{-2: "t^-2 - 2 + t^2", 2: "-t^-2 + 2 - t^2", 4: "1"}, "t^4"},
	} {
		d, want := samples.Weave(x.strands, x.word), byZ(x.want)
		if got := homflyOf(t, d); !slices.Equal(got, want) {
			t.Error(x.what, got, "wanted:", want)
		}
		if got := homflyOf(t, moved.Mirrored(d)); !slices.Equal(got, image(want)) {
			t.Error(x.what, "mirrored", got, "wanted:", image(want))
		}
		if got := conway(t, d); !slices.Equal(got, read(x.conway)) {
			t.Error(x.what, got, "wanted:", x.conway)
		}
	}
}

// P11.2: rings: as many loops as may be, beside no crossing, and beside as many curls as the chapter takes, in one piece and in as many; on the way there are more loops than a diagram may have.
func TestRings(t *testing.T) {
	for loops := 1; loops <= api.MaxLoops; loops++ {
		if got, want := homflyOf(t, samples.With(loops)), ringsApart(loops); !slices.Equal(got, want) {
			t.Error(loops, got, "wanted:", want)
		}
	}
	for by := range 4 {
		for n := 1; n <= most; n++ {
			for _, loops := range []int{0, 1, api.MaxLoops} {
				one, apart := moved.Curls(n, by), moved.CurlsApart(n, by)
				one.Loops, apart.Loops = loops, loops
				for rings, d := range map[int]api.Diagram{1 + loops: one, n + loops: apart} {
					if got, want := homflyOf(t, d), ringsApart(rings); !slices.Equal(got, want) {
						t.Error(d, got, "wanted:", want)
					}
				}
			}
		}
	}
	if greatest := ringsApart(most + api.MaxLoops)[11]; greatest.Coef != 1352078 {
		t.Error(greatest)
	}
}

// together: x times the first less x^-1 times the second.
func together(plus, minus []api.Term2) []api.Term2 {
	l := product(plus, []api.Term2{{X: 1, Coef: 1}})
	return inForm(append(l, product(minus, []api.Term2{{X: -1, Coef: -1}})...))
}

// P11.2: of three diagrams that differ at one crossing alone; of many diagrams, each crossing.
func TestThreeTogether(t *testing.T) {
	plusses, more := map[bool]int{}, 0
	for _, d := range smallOnes() {
		for k, c := range d.Crosses {
			plus, minus := d, change(t, d, k)
			if !c.Plus {
				plus, minus = minus, plus
			}
			none, e := homfly.Smooth(d, k)
			if e == api.ErrSize {
				continue
			}
			plusses[c.Plus]++
			if none.Loops > d.Loops {
				more++
			}
			left := together(homflyOf(t, plus), homflyOf(t, minus))
			if right := product(homflyOf(t, none), []api.Term2{{Z: 1, Coef: 1}}); e != api.OK || !slices.Equal(left, right) {
				t.Fatal(d, "at crossing", k, left, e, "wanted:", right)
			}
		}
	}
	if plusses[true] < 500 || plusses[false] < 500 || more < 100 {
		t.Error("too few:", plusses, more)
	}
}

// P11.2: of two strands that wind around one another: two crossings fewer, and one fewer, tell of it.
func TestChains(t *testing.T) {
	for _, plus := range []bool{true, false} {
		known := [][]api.Term2{ringsApart(2), ringsApart(1)}
		for n := 2; n <= most; n++ {
			// x P(n) = x^-1 P(n-2) + z P(n-1), or what the mirror image makes of it.
			two, one := []api.Term2{{X: -2, Coef: 1}}, []api.Term2{{X: -1, Z: 1, Coef: 1}}
			if !plus {
				two, one = image(two), image(one)
			}
			want := inForm(append(product(two, known[n-2]), product(one, known[n-1])...))
			known = append(known, want)
			if got := homflyOf(t, samples.Chain(n, plus)); !slices.Equal(got, want) {
				t.Error(n, plus, got, "wanted:", want)
			}
		}
	}
}

// P11.2: it is the same along every move; so is Conway's polynomial.
func TestAlongMoves(t *testing.T) {
	kinds := map[int]int{}
	for i, d := range smallOnes() {
		want, also := homflyOf(t, d), conway(t, d)
		for _, m := range moved.Steps(d, i) {
			if len(m.To.Crosses) > most {
				continue
			}
			if len(want) > 2 {
				kinds[m.Kind]++
			}
			if got := homflyOf(t, m.To); !slices.Equal(got, want) || !slices.Equal(conway(t, m.To), also) {
				t.Fatal(d, m, got, "wanted:", want)
			}
		}
	}
	for kind := api.Curl; kind <= api.Slide; kind++ {
		if kinds[kind] < 20 {
			t.Error("too few moves of kind", kind, kinds)
		}
	}
}

// P11.2: however crossings and arcs are numbered, and if all parts run the other way round.
func TestRenamed(t *testing.T) {
	die := samples.Die(112)
	for _, d := range smallOnes() {
		want := homflyOf(t, d)
		if again := samples.Renamed(&die, d); !slices.Equal(homflyOf(t, again), want) {
			t.Fatal(d, again, homflyOf(t, again), "wanted:", want)
		}
		if back := moved.Backward(d); !slices.Equal(homflyOf(t, back), want) {
			t.Fatal(d, back, homflyOf(t, back), "wanted:", want)
		}
	}
}
