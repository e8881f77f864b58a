package gauss_test

import (
	"math"
	"slices"
	"testing"

	"knotwork/api"
	"knotwork/code"
	"knotwork/gauss"
	"knotwork/samples"
)

// P3.3: diagrams that were built by hand.
func TestBuildByHand(t *testing.T) {
	for _, x := range []struct {
		what, visits, plus string
		loops              int
		want               string
	}{
		{"the trefoil", "(0_ 2^ 1_ 0^ 2_ 1^)", "---", 0, "X-[1,4,2,5] X-[3,6,4,1] X-[5,2,6,3]"},
		{"the trefoil with all signs turned", "(0_ 2^ 1_ 0^ 2_ 1^)", "+++", 2, "X+[1,5,2,4] X+[3,1,4,6] X+[5,3,6,2] O O"},
		{"a curl", "(0_ 0^)", "+", 0, "X+[1,1,2,2]"},
		{"a curl that begins above", "(0^ 0_)", "-", 1, "X-[2,1,1,2] O"},
		{"two rings, each of which comes to one crossing alone", "(0_) (0^)", "-", 0, "X-[1,2,1,2]"},
		{"two linked rings", "(1^ 0_) (1_ 0^)", "++", 0, "X+[2,3,1,4] X+[3,2,4,1]"},
		{"two pieces", "(1_ 1^) (0^ 0_)", "+-", 0, "X+[4,4,3,3] X-[1,2,2,1]"},
		{"a knot that cannot be drawn", "(0^ 1^ 0_ 1_)", "++", 0, "X+[3,2,4,1] X+[4,3,1,2]"},
		{"one loop", "", "", 1, "O"},
		{"three loops", "", "", 3, "O O O"},
	} {
		d, e := gauss.Build(walks(x.visits), signs(x.plus), x.loops)
		if s, f := code.Show(d); e != api.OK || f != api.OK || s != x.want {
			t.Errorf("%s: %v, %v, %q, %v; wanted: %q", x.what, d, e, s, f, x.want)
		}
	}
}

// renumbered: the diagram, its arcs numbered as Strands tells them.
func renumbered(d api.Diagram, strands [][]int) api.Diagram {
	number := map[int]int{}
	for i, arc := range slices.Concat(strands...) {
		number[arc] = i + 1
	}
	l := slices.Clone(d.Crosses)
	for k, c := range l {
		l[k] = api.Cross{A: number[c.A], B: number[c.B], C: number[c.C], D: number[c.D], Plus: c.Plus}
	}
	return api.Diagram{Crosses: l, Loops: d.Loops}
}

// P3.3: what Build makes of what Gauss tells is the same diagram, but for the numbers of its arcs.
func TestBuildOfGauss(t *testing.T) {
	for _, d := range samples.EveryOne() {
		strands, _ := gauss.Strands(d)
		l, plus, _ := gauss.Gauss(d)
		got, e := gauss.Build(l, plus, d.Loops)
		if want := renumbered(d, strands); e != api.OK || !samples.Alike(got, want) {
			t.Fatal(d, got, e, "wanted:", want)
		}
	}
}

// P3.3: of what Build makes Gauss tells the same visits, since arcs are numbered part by part, visit by visit.
func TestGaussOfBuild(t *testing.T) {
	die := samples.Die(6)
	for i := range 500 {
		l, plus := drawnWalks(&die, i%(api.MaxCross+1), 1+die.Below(5))
		loops := die.Below(api.MaxLoops + 1)
		if len(plus) == 0 {
			loops = max(loops, 1)
		}
		d, e := gauss.Build(l, plus, loops)
		if e != api.OK || !code.May(d) || d.Loops != loops {
			t.Fatal(l, plus, loops, d, e)
		}
		again, signs, f := gauss.Gauss(d)
		if f != api.OK || !equal(again, l) || !slices.Equal(signs, plus) {
			t.Fatal(l, plus, "told again as", again, signs, f)
		}
	}
}

// wrongWalks: what Build is given and refuses.
type wrongWalks struct {
	what  string
	l     [][]api.Visit
	plus  []bool
	loops int
}

// check that all of them are refused so, and that nothing is built.
func check(t *testing.T, want api.Errno, list []wrongWalks) {
	t.Helper()
	for _, x := range list {
		if d, e := gauss.Build(x.l, x.plus, x.loops); e != want || !samples.Alike(d, api.Diagram{}) {
			t.Error(x.what, d, e, "wanted:", want)
		}
	}
}

// rounds: the visits of a knot that comes to so many crossings in a row, and then to all of them again; and its signs.
func rounds(crosses int) ([][]api.Visit, []bool) {
	l := [][]api.Visit{nil}
	for i := range 2 * crosses {
		l[0] = append(l[0], api.Visit{Cross: i % crosses, Over: (i%crosses+i/crosses)%2 == 0})
	}
	return l, make([]bool, crosses)
}

// P3.3: ErrSize, and just up to it.
func TestBuildSize(t *testing.T) {
	most, signsOfMost := rounds(api.MaxCross)
	for _, loops := range []int{0, 1, api.MaxLoops} {
		if d, e := gauss.Build(most, signsOfMost, loops); e != api.OK || len(d.Crosses) != api.MaxCross || d.Loops != loops {
			t.Error(d, e)
		}
	}
	if d, e := gauss.Build(nil, nil, api.MaxLoops); e != api.OK || len(d.Crosses) != 0 || d.Loops != api.MaxLoops {
		t.Error(d, e)
	}
	more, signsOfMore := rounds(api.MaxCross + 1)
	many, signsOfMany := rounds(1000)
	curl := walks("(0_ 0^)")
	check(t, api.ErrSize, []wrongWalks{
		{"one crossing too many", more, signsOfMore, 0},
		{"far too many crossings", many, signsOfMany, 1},
		{"one loop too many", nil, nil, api.MaxLoops + 1},
		{"one loop too many beside a crossing", curl, signs("+"), api.MaxLoops + 1},
		{"fewer loops than 0", nil, nil, -1},
		{"fewer loops than 0 beside a crossing", curl, signs("+"), -1},
		{"the most loops of all", curl, signs("+"), math.MaxInt},
		{"the fewest loops of all", curl, signs("+"), math.MinInt},
		{"as said, and a crossing out of range", walks("(0_ 9^)"), signs("+"), -1},
		{"as said, and a crossing is not visited", nil, signsOfMore, 0},
		{"as said, and a part has no visit", walks("()"), nil, api.MaxLoops + 1},
		{"as said, and all of these", walks("(0_ 0_ 99^) ()"), signsOfMore, -1},
	})
}

// P3.3: ErrRange.
func TestBuildRange(t *testing.T) {
	check(t, api.ErrRange, []wrongWalks{
		{"below 0", walks("(0_ 0^ -1_)"), signs("+"), 0},
		{"as great as how many there are", walks("(0_ 0^ 1_ 1^)"), signs("+"), 0},
		{"as great, above alone", walks("(0_ 1^)"), signs("-"), 0},
		{"as great, in the second part", walks("(0_ 0^) (1_ 1^)"), signs("-"), 0},
		{"visits of none", walks("(0_ 0^)"), nil, 0},
		{"visits of none beside a loop", walks("(0_ 0^)"), []bool{}, 1},
		{"the greatest number of all", [][]api.Visit{{{Cross: math.MaxInt}, {Cross: math.MaxInt, Over: true}}}, signs("++"), 0},
		{"the least number of all", [][]api.Visit{{{Cross: math.MinInt}, {Cross: math.MinInt, Over: true}}}, signs("++"), 0},
		{"as said, and a crossing is not visited", walks("(2_ 2^)"), signs("++"), 0},
		{"as said at the end, and a crossing is visited thrice", walks("(0_ 0^ 0^) (1_ 1^ 2_)"), signs("++"), 0},
		{"as said, and a part has no visit", walks("() (0_ 1^)"), signs("+"), 0},
		{"as said, and there is neither crossing nor loop", walks("() (0_ 0^)"), nil, 0},
	})
}

// P3.3: ErrTwice.
func TestBuildTwice(t *testing.T) {
	check(t, api.ErrTwice, []wrongWalks{
		{"not visited", nil, signs("+"), 0},
		{"not visited, the last one", walks("(0_ 0^)"), signs("+-"), 1},
		{"not visited, the first one", walks("(1_ 1^)"), signs("+-"), 1},
		{"once, below", walks("(0_)"), signs("+"), 0},
		{"once, above", walks("(0^)"), signs("-"), 0},
		{"twice below", walks("(0_ 0_)"), signs("+"), 0},
		{"twice above", walks("(0^ 0^)"), signs("+"), 0},
		{"twice above, in two parts", walks("(0^) (0^)"), signs("+"), 0},
		{"one twice above, the other twice below", walks("(0^ 1_ 0^ 1_)"), signs("+-"), 0},
		{"thrice", walks("(0^ 0_ 0^)"), signs("+"), 0},
		{"thrice, below", walks("(0^ 0_ 0_)"), signs("+"), 0},
		{"four times", walks("(0^ 0_) (0^ 0_)"), signs("+"), 0},
		{"one three times, one once", walks("(0^ 0_ 0^ 1_)"), signs("++"), 0},
		{"many times", [][]api.Visit{slices.Repeat([]api.Visit{{}, {Over: true}}, 100000)}, signs("+"), 0},
		{"as said, and a part has no visit", walks("(0^ 0^) ()"), signs("+"), 0},
		{"not visited, and a part has no visit", walks("()"), signs("+"), 0},
	})
}

// P3.3: ErrState.
func TestBuildState(t *testing.T) {
	check(t, api.ErrState, []wrongWalks{
		{"neither crossing nor loop", nil, nil, 0},
		{"neither, by empty lists", [][]api.Visit{}, []bool{}, 0},
		{"a part without a visit alone", walks("()"), nil, 0},
		{"a part without a visit beside a loop", walks("()"), nil, 1},
		{"an empty one", [][]api.Visit{{}}, nil, 1},
		{"the first part without a visit", walks("() (0_ 0^)"), signs("+"), 0},
		{"the last part without a visit", walks("(0_ 0^) ()"), signs("+"), 2},
		{"a part without a visit between two", walks("(0_) () (0^)"), signs("-"), 0},
		{"many without a visit", make([][]api.Visit, 100000), nil, 3},
	})
}
