package sign_test

import (
	"testing"

	"knotwork/api"
	"knotwork/samples"
)

// P9.2: tables that were worked out by hand, of both shades.
func TestGoeritzByHand(t *testing.T) {
	for _, x := range []struct {
		what, text  string
		tables      [2][][]int
		corrections [2]int
	}{
		{"the trefoil", "X-[1,4,2,5] X-[3,6,4,1] X-[5,2,6,3]",
			[2][][]int{{{3, -3}, {-3, 3}}, {{-2, 1, 1}, {1, -2, 1}, {1, 1, -2}}}, [2]int{3, 0}},
		{"its mirror image", "X+[4,2,5,1] X+[6,4,1,3] X+[2,6,3,5]",
			[2][][]int{{{-3, 3}, {3, -3}}, {{2, -1, -1}, {-1, 2, -1}, {-1, -1, 2}}}, [2]int{-3, 0}},
		{"a curl that is Plus", "X+[1,1,2,2]", [2][][]int{{{0}}, {{-1, 1}, {1, -1}}}, [2]int{0, -1}},
		{"a curl that is not", "X-[2,1,1,2]", [2][][]int{{{0}}, {{1, -1}, {-1, 1}}}, [2]int{0, 1}},
		{"a curl within", "X-[1,2,2,1]", [2][][]int{{{1, -1}, {-1, 1}}, {{0}}}, [2]int{1, 0}},
		{"two rings, linked", "X+[4,2,1,3] X+[2,4,3,1]",
			[2][][]int{{{-2, 2}, {2, -2}}, {{2, -2}, {-2, 2}}}, [2]int{-2, 0}},
		{"the same, one of them the other way round", "X-[1,3,4,2] X-[2,4,3,1]",
			[2][][]int{{{2, -2}, {-2, 2}}, {{-2, 2}, {2, -2}}}, [2]int{2, 0}},
		{"two rings, one upon the other", "X+[2,3,1,4] X-[1,3,2,4]",
			[2][][]int{{{0, 0}, {0, 0}}, {{0, 0}, {0, 0}}}, [2]int{0, 0}},
	} {
		for shade := range 2 {
			table, correction := goeritz(t, samples.OfText(x.text), shade)
			if !equal(table, x.tables[shade]) || correction != x.corrections[shade] {
				t.Error(x.what, shade, table, correction, "wanted:", x.tables[shade], x.corrections[shade])
			}
		}
	}
}

// corners: of each crossing the faces between the places A and B, B and C, C and D, D and A: a dart that comes to a place goes on along the corner ahead of it.
func corners(t *testing.T, d api.Diagram) [][4]int {
	t.Helper()
	of, _ := faceOf(t, d)
	l := make([][4]int, len(d.Crosses))
	for k, c := range d.Crosses {
		for place, arc := range [4]int{c.A, c.B, c.C, c.D} {
			comesIn := place == 0 || place == 1 && !c.Plus || place == 3 && c.Plus
			l[k][(place+3)%4] = of[api.Dart{Arc: arc, Back: !comesIn}]
		}
	}
	return l
}

// byWords: table and correction as the chapter tells them.
func byWords(t *testing.T, d api.Diagram, shade int) (table [][]int, correction int) {
	t.Helper()
	place, rows := map[int]int{}, 0
	shaded := shades(t, d)
	for face, s := range shaded {
		if s == shade {
			place[face] = rows
			rows++
		}
	}
	for range rows {
		table = append(table, make([]int, rows))
	}
	for k, corner := range corners(t, d) {
		if shaded[corner[0]] != shaded[corner[2]] || shaded[corner[1]] != shaded[corner[3]] {
			t.Fatal(d, "unlike shades across crossing", k)
		}
		worth, pair := -1, [2]int{corner[0], corner[2]}
		if shaded[corner[1]] == shade {
			worth, pair = 1, [2]int{corner[1], corner[3]}
		}
		if i, j := place[pair[0]], place[pair[1]]; i != j {
			table[i][j] -= worth
			table[j][i] -= worth
			table[i][i] += worth
			table[j][j] += worth
		}
		if d.Crosses[k].Plus && worth == -1 || !d.Crosses[k].Plus && worth == 1 {
			correction += worth
		}
	}
	return table, correction
}

// P9.2: of many diagrams, by the chapter's words.
func TestGoeritz(t *testing.T) {
	rows, below, above := map[int]int{}, 0, 0
	for _, d := range singles() {
		for shade := range 2 {
			table, correction := goeritz(t, d, shade)
			want, corrected := byWords(t, d, shade)
			if !equal(table, want) || correction != corrected {
				t.Fatal(d, shade, table, correction, "wanted:", want, corrected)
			}
			rows[len(table)]++
			if correction < 0 {
				below++
			}
			if correction > 0 {
				above++
			}
		}
	}
	for n := 1; n <= 10; n++ {
		if rows[n] < 5 {
			t.Error("too few of", n, "rows:", rows)
		}
	}
	if below < 50 || above < 50 {
		t.Error("too few corrections:", below, above)
	}
}

// P9.2: the most rows there are: a row for each face between two strands that are wound around one another.
func TestGoeritzEdges(t *testing.T) {
	for _, plus := range []bool{false, true} {
		var sizes [2]int
		for shade := range 2 {
			table, correction := goeritz(t, samples.Chain(api.MaxCross, plus), shade)
			sizes[shade] = len(table)
			switch {
			case len(table) == 2 && (max(table[0][0], -table[0][0]) != api.MaxCross || correction != table[0][0]):
				t.Error(plus, shade, table, correction)
			case len(table) == api.MaxCross && (max(table[0][0], -table[0][0]) != 2 || correction != 0):
				t.Error(plus, shade, table, correction)
			}
		}
		if sizes[0]+sizes[1] != api.MaxCross+2 || min(sizes[0], sizes[1]) != 2 {
			t.Error(plus, sizes)
		}
	}
}
