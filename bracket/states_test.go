package bracket_test

import (
	"slices"
	"testing"

	"knotwork/api"
	"knotwork/moved"
	"knotwork/samples"
	"knotwork/terms"
)

// byStates: the bracket as the chapter tells it, state by state: a bit of 1 undoes its crossing by A.
func byStates(d api.Diagram) []api.Term {
	sum := terms.Work{}
	for state := range 1 << len(d.Crosses) {
		power := 0
		for k := range d.Crosses {
			power += 2*(state>>k&1) - 1
		}
		for _, t := range ringsApart(ringsOf(d, state)) {
			sum[t.Exp+power] += t.Coef
		}
	}
	return sum.InForm()
}

// ringsOf a state: arcs that are tied lie in one ring.
func ringsOf(d api.Diagram, state int) int {
	first := make([]int, 2*len(d.Crosses)+1)
	for arc := range first {
		first[arc] = arc
	}
	count := 2*len(d.Crosses) + d.Loops
	tie := func(x, y int) {
		for first[x] != x {
			x = first[x]
		}
		for first[y] != y {
			y = first[y]
		}
		if x != y {
			first[x] = y
			count--
		}
	}
	for k, c := range d.Crosses {
		if state>>k&1 == 1 {
			tie(c.A, c.B)
			tie(c.C, c.D)
		} else {
			tie(c.B, c.C)
			tie(c.D, c.A)
		}
	}
	return count
}

// P10.1: brackets that were worked out by hand.
func TestBracketByHand(t *testing.T) {
	for _, x := range []struct{ what, text, want string }{
		{"one loop", "O", "1"},
		{"two loops", "O O", "-t^-2 - t^2"},
		{"three loops", "O O O", "t^-4 + 2 + t^4"},
		{"a curl that is Plus", "X+[1,1,2,2]", "-t^3"},
		{"a curl that is not", "X-[2,1,1,2]", "-t^-3"},
		{"the same, its arcs numbered otherwise", "X-[1,2,2,1]", "-t^-3"},
		{"a curl and a loop", "X+[1,1,2,2] O", "t + t^5"},
		{"two rings, linked", "X+[4,2,1,3] X+[2,4,3,1]", "-t^-4 - t^4"},
		{"the same, one of them the other way round", "X-[1,3,4,2] X-[2,4,3,1]", "-t^-4 - t^4"},
		{"two rings, one upon the other", "X+[2,3,1,4] X-[1,3,2,4]", "-t^-2 - t^2"},
		{"the trefoil", "X-[1,4,2,5] X-[3,6,4,1] X-[5,2,6,3]", "-t^-5 - t^3 + t^7"},
		{"its mirror image", "X+[4,2,5,1] X+[6,4,1,3] X+[2,6,3,5]", "t^-7 - t^-3 - t^5"},
	} {
		if got := bracketOf(t, samples.OfText(x.text)); !slices.Equal(got, read(x.want)) {
			t.Error(x.what, got, "wanted:", x.want)
		}
	}
}

// P10.1: of many diagrams, by the chapter's words.
func TestBracket(t *testing.T) {
	sizes, loops := map[int]int{}, 0
	for _, d := range smallOnes() {
		n := len(d.Crosses)
		if n > 8 && sizes[n] >= 12 {
			continue
		}
		sizes[n]++
		loops += min(d.Loops, 1)
		if got, want := bracketOf(t, d), byStates(d); !slices.Equal(got, want) {
			t.Fatal(d, got, "wanted:", want)
		}
	}
	for n := range most + 1 {
		if sizes[n] < 2 || n > 0 && sizes[n] < 10 {
			t.Error("too few of", n, "crossings:", sizes)
		}
	}
	if loops < 40 {
		t.Error("too few with loops:", loops)
	}
}

// P10.1: however crossings are numbered, and whichever arc stands first.
func TestBracketRenamed(t *testing.T) {
	die := samples.Die(101)
	for _, d := range smallOnes() {
		want := bracketOf(t, d)
		if again := samples.Renamed(&die, d); !slices.Equal(bracketOf(t, again), want) {
			t.Fatal(d, again, bracketOf(t, again), "wanted:", want)
		}
	}
}

// P10.1: it does not hang on where strands go, but for the crossings' places: a part that is reversed changes nothing.
func TestBracketTurned(t *testing.T) {
	die := samples.Die(102)
	turned := 0
	for _, d := range smallOnes() {
		other := moved.Turned(&die, d)
		if !samples.Alike(d, other) {
			turned++
		}
		if got, want := bracketOf(t, other), bracketOf(t, d); !slices.Equal(got, want) {
			t.Fatal(d, other, got, "wanted:", want)
		}
	}
	if turned < 200 {
		t.Error("too few:", turned)
	}
}

// P10.1, P10.2: edges: as many loops as may be, beside no crossing, and beside as many as the chapter takes, in one piece and in as many; coefficients are greater than those that chapter 1 takes.
func TestEdges(t *testing.T) {
	for loops := 1; loops <= api.MaxLoops; loops++ {
		d, want := samples.With(loops), ringsApart(loops)
		if got, also := bracketOf(t, d), jones(t, d); !slices.Equal(got, want) || !slices.Equal(also, want) {
			t.Error(loops, got, also, "wanted:", want)
		}
	}
	for by := range 4 {
		for n := 1; n <= most; n++ {
			for _, loops := range []int{0, 1, api.MaxLoops} {
				one, apart := moved.Curls(n, by), moved.CurlsApart(n, by)
				one.Loops, apart.Loops = loops, loops
				for rings, d := range map[int]api.Diagram{1 + loops: one, n + loops: apart} {
					want := ringsApart(rings)
					if got := jones(t, d); !slices.Equal(got, want) {
						t.Error(d, got, "wanted:", want)
					}
					power := api.Term{Exp: 3 * n, Coef: 1 - 2*(n%2)}
					if !d.Crosses[0].Plus {
						power.Exp = -power.Exp
					}
					if got, want := bracketOf(t, d), product(want, []api.Term{power}); !slices.Equal(got, want) {
						t.Error(d, got, "wanted:", want)
					}
				}
			}
		}
	}
	if greatest := ringsApart(most + api.MaxLoops)[13]; greatest.Coef != -20058300 {
		t.Error(greatest)
	}
}

// P10.1: of two strands that wind around one another: one crossing more adds one way without all crossings, and one with a curl more.
func TestChains(t *testing.T) {
	want := map[bool]terms.Work{true: terms.Of(ringsApart(2)), false: terms.Of(ringsApart(2))}
	for n := 1; n <= most; n++ {
		for _, plus := range []bool{true, false} {
			way := -1
			if plus {
				way = 1
			}
			// Undone along the strands, the last crossing leaves n-1; the other way it leaves a ring of n-1 curls.
			curls := terms.Work{3*way*(1-n) - way: 1 - 2*((n-1)%2)}
			want[plus] = want[plus].Times(terms.Work{way: 1}).Plus(curls)
			if got := bracketOf(t, samples.Chain(n, plus)); !slices.Equal(got, want[plus].InForm()) {
				t.Error(n, plus, got, "wanted:", want[plus].InForm())
			}
		}
	}
}
