package colour_test

import (
	"math"
	"slices"
	"testing"

	"knotwork/api"
	"knotwork/canon"
	"knotwork/colour"
	"knotwork/gauss"
	"knotwork/moved"
	"knotwork/samples"
)

// parts of a diagram's link, loops too.
func parts(d api.Diagram) int {
	strands, _ := gauss.Strands(d)
	return len(strands) + d.Loops
}

// P7.3: knots and links whose colourings are known.
func TestCountByHand(t *testing.T) {
	eight := samples.Weave(3, []int{1, -2, 1, -2})
	granny, _ := canon.Sum(samples.Trefoil(), 1, samples.Trefoil(), 1)
	for _, x := range []struct {
		what string
		d    api.Diagram
		q    [][]int
		want int
	}{
		{"the trefoil, modulo 3", samples.Trefoil(), dihedral(3), 9},
		{"the trefoil, one colour", samples.Trefoil(), trivial(1), 1},
		{"the trefoil, four that change nothing", samples.Trefoil(), trivial(4), 4},
		{"the trefoil, a tetrahedron", samples.Trefoil(), tetrahedral(), 16},
		{"the figure of eight, modulo 3", eight, dihedral(3), 3},
		{"the figure of eight, a tetrahedron", eight, tetrahedral(), 16},
		{"two trefoils tied, modulo 3", granny, dihedral(3), 27},
		{"two trefoils tied, a tetrahedron", granny, tetrahedral(), 64},
		{"two rings, linked: a colour that moves others stands with itself alone", samples.Chain(2, true), swapping(), 5},
		{"linked twice: two swaps are none", samples.Chain(4, true), swapping(), 9},
		{"linked once, three in turn", samples.Chain(2, false), turning(), 10},
		{"linked twice, three in turn", samples.Chain(4, true), turning(), 10},
		{"linked three times: three turns are none", samples.Chain(6, false), turning(), 16},
		{"two rings, one upon the other: a turn, and back", samples.OfText("X+[2,3,1,4] X-[1,3,2,4]"), turning(), 16},
		{"two rings, linked, modulo 4", samples.Chain(2, true), dihedral(4), 8},
		{"one loop", samples.With(1), tetrahedral(), 4},
		{"two loops", samples.With(2), swapping(), 9},
		{"as many loops as are counted", samples.With(4), trivial(4), 256},
		{"a trefoil and a loop", samples.Beside(samples.Trefoil(), samples.With(1)), dihedral(3), 27},
		{"a trefoil and as many loops as are counted", samples.Beside(samples.Trefoil(), samples.With(4)), tetrahedral(), 4096},
		{"as many curls and loops as are counted", samples.Beside(manyCurls(10), samples.With(4)), turning(), 1 << 28},
		{"as many rings upon one as are counted", moved.RingsUpon(5), tetrahedral(), 4096},
	} {
		if got := count(t, x.d, x.q); got != x.want {
			t.Error(x.what, got, "wanted:", x.want)
		}
	}
}

// small: those of many diagrams that have few overpasses; and how many these are.
func small(t *testing.T, most int) ([]api.Diagram, []int) {
	t.Helper()
	var l []api.Diagram
	var number []int
	for _, d := range moved.Ones() {
		n := 0
		for _, over := range overs(t, d) {
			n = max(n, over+1)
		}
		if n <= most && d.Loops <= 4 {
			l, number = append(l, d), append(number, n)
		}
	}
	return l, number
}

// P7.3: by every quandle of one to four colours, but for their names: all colourings are gone through, and counted.
func TestCountByCounting(t *testing.T) {
	ones, number := small(t, 6)
	if len(ones) < 150 {
		t.Error("too few diagrams:", len(ones))
	}
	kinds := map[int][][][]int{}
	for n := 1; n <= 4; n++ {
		kinds[n] = kindsOfQuandles(n)
	}
	for i, d := range ones {
		over := overs(t, d)
		for n := 1; n <= 4; n++ {
			q := kinds[n][i%len(kinds[n])]
			found := 0
			for colours := range power(n, number[i]) {
				if quandleHolds(d, over, colours, q) {
					found++
				}
			}
			if got := count(t, d, q); got != found*power(n, d.Loops) {
				t.Fatal(d, q, got, "wanted:", found, "times loops")
			}
		}
	}
}

// quandleHolds: is it a colouring, by the chapter's words? The colours of the overpasses are the digits of a number.
func quandleHolds(d api.Diagram, over []int, number int, q [][]int) bool {
	of := func(arc int) int { return number / power(len(q), over[arc-1]) % len(q) }
	for _, c := range d.Crosses {
		if c.Plus && of(c.C) != q[of(c.A)][of(c.B)] || !c.Plus && of(c.A) != q[of(c.C)][of(c.B)] {
			return false
		}
	}
	return true
}

// What comes of it (P7.3): Count is the same along every move; one colour for all is always a colouring.
func TestCountAlongMoves(t *testing.T) {
	kinds := map[int]int{}
	quandles := [][][]int{dihedral(3), tetrahedral(), turning(), swapping(), dihedral(4)}
	for i, d := range moved.Ones() {
		if len(d.Crosses) > 10 || d.Loops > 4 {
			continue
		}
		q := quandles[i%len(quandles)]
		want := count(t, d, q)
		if want < len(q) {
			t.Fatal(d, q, want)
		}
		for _, m := range moved.Steps(d, i) {
			if len(m.To.Crosses) > 10 || m.To.Loops > 4 {
				continue
			}
			kinds[m.Kind]++
			if got := count(t, m.To, q); got != want {
				t.Fatal(d, m, q, got, "wanted:", want)
			}
		}
	}
	for kind := api.Curl; kind <= api.Slide; kind++ {
		if kinds[kind] < 50 {
			t.Error("too few moves of kind", kind, kinds)
		}
	}
}

// What comes of it (P7.3): with a ▷ b = 2b - a modulo 3 Count is 3 to the power of Fox with 3; modulo 2, and with colours that change nothing, each part has its own.
func TestCountIsFox(t *testing.T) {
	for _, d := range moved.Ones() {
		if len(d.Crosses) > 10 || d.Loops > 4 {
			continue
		}
		if got, n := count(t, d, dihedral(3)), fox(t, d, 3); got != power(3, n) {
			t.Fatal(d, got, "wanted: 3 to the power of", n)
		}
		if got, n := count(t, d, dihedral(2)), fox(t, d, 2); got != power(2, n) {
			t.Fatal(d, got, "wanted: 2 to the power of", n)
		}
		for n := 1; n <= 4; n++ {
			if got := count(t, d, trivial(n)); got != power(n, parts(d)) {
				t.Fatal(d, got, "wanted:", n, "to the power of", parts(d))
			}
		}
	}
}

// permutations of n colours.
func permutations(n int) [][]int {
	if n == 0 {
		return [][]int{nil}
	}
	var l [][]int
	for _, less := range permutations(n - 1) {
		for at := range n {
			l = append(l, slices.Insert(slices.Clone(less), at, n-1))
		}
	}
	return l
}

// everyTable of n colours in which each column is a permutation, and, if so asked, no colour changes itself.
func everyTable(n int, itself bool) [][][]int {
	l := [][][]int{trivial(n)}
	for b := range n {
		var more [][][]int
		for _, column := range permutations(n) {
			if itself && column[b] != b {
				continue
			}
			for _, q := range l {
				more = append(more, tableOf(n, func(x, y int) int {
					if y == b {
						return column[x]
					}
					return q[x][y]
				}))
			}
		}
		l = more
	}
	return l
}

// isQuandle, by the chapter's words.
func isQuandle(q [][]int) bool {
	n := len(q)
	for a := range n {
		if q[a][a] != a {
			return false
		}
		for b := range n {
			ways := 0
			for x := range n {
				if q[x][a] == b {
					ways++
				}
			}
			if ways != 1 {
				return false
			}
			for c := range n {
				if q[q[a][b]][c] != q[q[a][c]][q[b][c]] {
					return false
				}
			}
		}
	}
	return true
}

// kindsOfQuandles of n colours: one of each, whatever names colours have.
func kindsOfQuandles(n int) [][][]int {
	var kinds [][][]int
	for _, q := range everyTable(n, true) {
		if isQuandle(q) && !slices.ContainsFunc(kinds, func(other [][]int) bool { return renamed(q, other) }) {
			kinds = append(kinds, q)
		}
	}
	return kinds
}

// renamed: is it the other table, with other names of its colours?
func renamed(q, other [][]int) bool {
	return slices.ContainsFunc(permutations(len(q)), func(name []int) bool {
		for a, row := range q {
			for b, c := range row {
				if other[name[a]][name[b]] != name[c] {
					return false
				}
			}
		}
		return true
	})
}

// P7.3: of all tables whose columns are permutations (of four colours those that keep the first law) just the quandles are taken: 1, 1, 3 and 7 of them, but for names.
func TestQuandles(t *testing.T) {
	for n, want := range map[int]int{1: 1, 2: 1, 3: 3, 4: 7} {
		checkTables(t, everyTable(n, n == 4))
		if kinds := kindsOfQuandles(n); len(kinds) != want {
			t.Error(n, "colours:", len(kinds), "kinds; wanted:", want)
		}
	}
}

// checkTables: is of each table said whether it is a quandle?
func checkTables(t *testing.T, tables [][][]int) {
	t.Helper()
	for _, q := range tables {
		want := api.ErrKind
		if isQuandle(q) {
			want = api.OK
		}
		n, e := colour.Count(samples.With(1), q)
		if e != want || (e == api.OK) != (n == len(q)) || e != api.OK && n != 0 {
			t.Fatal(q, n, e, "wanted:", want)
		}
	}
}

// P7.3: all tables of two colours, and many of three and four, permutations or not.
func TestOtherTables(t *testing.T) {
	die := samples.Die(73)
	var tables [][][]int
	for number := range 16 {
		tables = append(tables, tableOf(2, func(a, b int) int { return number >> (2*a + b) & 1 }))
	}
	for i := range 4000 {
		n := 3 + i%2
		q := tableOf(n, func(a, b int) int { return die.Below(n) })
		if i%3 > 0 {
			q = slices.Clone([][][]int{trivial(n), dihedral(n)}[i%3-1])
			q[die.Below(n)][die.Below(n)] = die.Below(n)
		}
		tables = append(tables, q)
	}
	checkTables(t, tables)
}

// P7.3: one law alone is broken, be it by one colour alone; this is refused behind ErrForm, and ahead of what may be wrong with a diagram.
func TestNoQuandles(t *testing.T) {
	for what, q := range map[string][][]int{
		"a colour changes itself":         tableOf(2, func(a, b int) int { return 1 - a }),
		"each colour changes itself":      tableOf(3, func(a, b int) int { return (a + 1) % 3 }),
		"four colours change themselves":  tableOf(4, func(a, b int) int { return a ^ 1 }),
		"all become what changes them":    tableOf(3, func(a, b int) int { return b }),
		"two become one":                  {{0, 1}, {1, 1}},
		"the last colour alone joins two": {{0, 0, 0}, {1, 1, 0}, {2, 2, 2}},
		"the third law":                   {{0, 2, 0}, {2, 1, 1}, {1, 0, 2}},
		"the third law, of four":          {{0, 0, 0, 1}, {1, 1, 1, 0}, {2, 3, 2, 2}, {3, 2, 3, 3}},
		"the third law, by two that turn": {{0, 2, 0, 0}, {1, 1, 3, 1}, {2, 3, 2, 2}, {3, 0, 1, 3}},
	} {
		if isQuandle(q) {
			t.Error(what, "is one")
		}
		for _, d := range []api.Diagram{samples.Trefoil(), samples.With(1), samples.With(0), samples.OfText("X-[1,2,1,2]"), samples.Chain(11, true), samples.With(5), samples.With(0, api.Cross{A: 9}), samples.With(99)} {
			if n, e := colour.Count(d, q); n != 0 || e != api.ErrKind {
				t.Error(what, d, n, e)
			}
		}
	}
}

// P7.3: tables that are none are refused ahead of all.
func TestNoTables(t *testing.T) {
	for what, q := range map[string][][]int{
		"nil":                         nil,
		"no rows":                     {},
		"an empty row":                {{}},
		"a nil row":                   {nil},
		"five rows":                   trivial(5),
		"five empty rows":             make([][]int, 5),
		"very many rows":              make([][]int, 1000),
		"a row too long":              {{0, 0}, {1, 1, 1}},
		"a row too short":             {{0, 0}, {1}},
		"the first row too long":      {{0, 0, 0}, {1, 1}},
		"all rows too long":           {{0, 0, 0}, {1, 1, 1}},
		"all rows too short":          {{0, 0}, {1, 1}, {2, 2}},
		"one row, of two":             {{0, 0}},
		"the last row empty":          {{0, 0, 0}, {1, 1, 1}, {}},
		"a number below 0":            {{0, 0}, {1, -1}},
		"a number too great":          {{0, 0}, {1, 2}},
		"a number too great, first":   {{1}},
		"four, a number too great":    {{0, 0, 0, 4}, {1, 1, 1, 1}, {2, 2, 2, 2}, {3, 3, 3, 3}},
		"the greatest number":         {{0, math.MaxInt}, {1, 1}},
		"the least number":            {{0, 0}, {math.MinInt, 1}},
		"no quandle either":           {{1, 1}, {1, 2}},
		"no quandle either, too long": {{1, 1}, {0, 0, 0}},
	} {
		for _, d := range []api.Diagram{samples.Trefoil(), samples.With(1), samples.With(0), samples.OfText("X-[1,2,1,2]"), samples.Chain(11, true), samples.With(5), samples.With(0, api.Cross{A: 9}), samples.With(99)} {
			if n, e := colour.Count(d, q); n != 0 || e != api.ErrForm {
				t.Error(what, d, n, e)
			}
		}
	}
}

// P7.3: as many crossings and loops as are counted, and one more of each, which is refused behind ErrPlane.
func TestCountSizes(t *testing.T) {
	for _, crosses := range []int{0, 1, 9, 10, 11, api.MaxCross} {
		for _, loops := range []int{0, 1, 3, 4, 5, api.MaxLoops} {
			if crosses+loops == 0 {
				continue
			}
			d := samples.With(loops)
			if crosses > 0 {
				d = samples.Beside(samples.Chain(crosses, true), d)
			}
			want := api.OK
			if crosses > 10 || loops > 4 {
				want = api.ErrSize
			}
			n, e := colour.Count(d, trivial(2))
			if e != want || e == api.OK && n != power(2, parts(d)) || e != api.OK && n != 0 {
				t.Error(crosses, loops, n, e)
			}
			twisted := samples.Beside(samples.OfText("X-[1,2,1,2]"), d)
			if crosses < api.MaxCross {
				want = api.ErrPlane
			} else {
				want = api.ErrState
			}
			if n, e := colour.Count(twisted, trivial(2)); n != 0 || e != want {
				t.Error(crosses, loops, "on no sphere", n, e)
			}
		}
	}
}
