package gauss_test

import (
	"slices"
	"testing"

	"knotwork/api"
	"knotwork/gauss"
	"knotwork/samples"
)

// P3.1, P3.2: walks that were found by hand.
func TestWalksByHand(t *testing.T) {
	for _, x := range []struct {
		what, text string
		strands    [][]int
		visits     string
		plus       string
	}{
		{"the trefoil", "X-[1,4,2,5] X-[3,6,4,1] X-[5,2,6,3]", [][]int{{1, 2, 3, 4, 5, 6}}, "(0_ 2^ 1_ 0^ 2_ 1^)", "---"},
		{"the trefoil, its arcs numbered otherwise", "X-[3,2,5,6] X-[4,1,2,3] X-[6,5,1,4]", [][]int{{1, 3, 5, 4, 2, 6}}, "(1^ 0_ 2^ 1_ 0^ 2_)", "---"},
		{"a curl", "X+[1,1,2,2]", [][]int{{1, 2}}, "(0_ 0^)", "+"},
		{"a curl that begins above", "X-[2,1,1,2]", [][]int{{1, 2}}, "(0^ 0_)", "-"},
		{"two rings, each of which comes to one crossing alone", "X-[1,2,1,2]", [][]int{{1}, {2}}, "(0_) (0^)", "-"},
		{"the same, the first one above", "X+[2,1,2,1] O O", [][]int{{1}, {2}}, "(0^) (0_)", "+"},
		{"two linked rings", "X+[4,2,1,3] X+[2,4,3,1]", [][]int{{1, 4}, {2, 3}}, "(1^ 0_) (1_ 0^)", "++"},
		{"two pieces and a loop", "X+[4,4,1,1] X-[2,3,3,2] O", [][]int{{1, 4}, {2, 3}}, "(0^ 0_) (1_ 1^)", "+-"},
		{"a knot that cannot be drawn", "X+[3,2,4,1] X+[4,3,1,2]", [][]int{{1, 2, 3, 4}}, "(0^ 1^ 0_ 1_)", "++"},
		{"one loop", "O", nil, "", ""},
		{"loops alone", "O O O", nil, "", ""},
	} {
		d := samples.OfText(x.text)
		if got, e := gauss.Strands(d); e != api.OK || !equal(got, x.strands) {
			t.Errorf("Strands: %s: %v, %v; wanted: %v", x.what, got, e, x.strands)
		}
		got, plus, e := gauss.Gauss(d)
		if e != api.OK || !equal(got, walks(x.visits)) || !slices.Equal(plus, signs(x.plus)) {
			t.Errorf("Gauss: %s: %v, %v, %v; wanted: %s, %s", x.what, got, plus, e, x.visits, x.plus)
		}
	}
}

// P3.1: each arc stands once, behind the one that leads to it; each part begins with its lowest arc, and they are in the order of these.
func TestStrands(t *testing.T) {
	count := map[int]int{}
	for _, d := range samples.EveryOne() {
		next, _ := passes(d)
		got, e := gauss.Strands(d)
		if e != api.OK {
			t.Fatal(d, e)
		}
		seen := map[int]bool{}
		for i, part := range got {
			for j, arc := range part {
				if seen[arc] || next[arc] != part[(j+1)%len(part)] {
					t.Fatal(d, got, "goes on otherwise behind", arc)
				}
				seen[arc] = true
			}
			if slices.Min(part) != part[0] || i > 0 && got[i-1][0] > part[0] {
				t.Fatal(d, got, "is not in order")
			}
		}
		if len(seen) != len(next) {
			t.Fatal(d, got, "lacks arcs")
		}
		count[len(got)]++
	}
	for parts := range 4 {
		if count[parts] == 0 {
			t.Error("no diagram of", parts, "parts was looked at:", count)
		}
	}
}

// P3.2: of each arc that Strands tells, Gauss tells the visit; and of each crossing its sign.
func TestGauss(t *testing.T) {
	for _, d := range samples.EveryOne() {
		_, visit := passes(d)
		strands, _ := gauss.Strands(d)
		got, plus, e := gauss.Gauss(d)
		if e != api.OK || len(got) != len(strands) || len(plus) != len(d.Crosses) {
			t.Fatal(d, got, plus, e)
		}
		for i, part := range strands {
			if len(got[i]) != len(part) {
				t.Fatal(d, got, "wanted, by arcs:", strands)
			}
			for j, arc := range part {
				if got[i][j] != visit[arc] {
					t.Fatal(d, got, "arc", arc, "wanted:", visit[arc])
				}
			}
		}
		for k, c := range d.Crosses {
			if plus[k] != c.Plus {
				t.Fatal(d, plus)
			}
		}
	}
}

// P3.1, P3.2, P3.4: what may not be is refused, and nothing else is told.
func TestRefused(t *testing.T) {
	for _, x := range samples.WrongOnes() {
		if l, e := gauss.Strands(x.Diagram); e != api.ErrState || len(l) != 0 {
			t.Error("Strands:", x.What, l, e)
		}
		if l, plus, e := gauss.Gauss(x.Diagram); e != api.ErrState || len(l) != 0 || len(plus) != 0 {
			t.Error("Gauss:", x.What, l, plus, e)
		}
		if l, e := gauss.Dowker(x.Diagram); e != api.ErrState || len(l) != 0 {
			t.Error("Dowker:", x.What, l, e)
		}
	}
}

// P3.1, P3.2: as many crossings and loops as may be, and one more of each.
func TestSizes(t *testing.T) {
	for _, crosses := range []int{0, 1, api.MaxCross - 1, api.MaxCross, api.MaxCross + 1} {
		for _, loops := range []int{-1, 0, 1, api.MaxLoops, api.MaxLoops + 1} {
			want := api.OK
			if crosses > api.MaxCross || loops < 0 || loops > api.MaxLoops || crosses+loops == 0 {
				want = api.ErrState
			}
			d := samples.Chain(crosses, true)
			d.Loops = loops
			if l, e := gauss.Strands(d); e != want || e == api.OK && crosses > 0 && len(l) != 2-crosses%2 {
				t.Error("Strands:", crosses, loops, l, e)
			}
			if l, plus, e := gauss.Gauss(d); e != want || e == api.OK && len(plus) != crosses {
				t.Error("Gauss:", crosses, loops, l, plus, e)
			}
		}
	}
}
