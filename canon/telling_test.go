package canon

import (
	"slices"
	"testing"

	"knotwork/api"
	"knotwork/drawing"
	"knotwork/samples"
)

// told: the telling of a text's diagram from a crossing on.
func told(s string, first int) telling {
	w, _ := drawing.Of(samples.OfText(s))
	return toldFrom(w, first)
}

// P4.1: codes that were found by hand, crossing by crossing: a sign, then of each place the other end's crossing and place.
func TestCodesByHand(t *testing.T) {
	trefoil := []int{
		0, 1, 3, 1, 2, 2, 1, 2, 0,
		0, 2, 3, 2, 2, 0, 1, 0, 0,
		0, 0, 3, 0, 2, 1, 1, 1, 0,
	}
	for _, x := range []struct {
		what, text  string
		first       int
		order, code []int
	}{
		{"a curl", "X-[1,2,2,1]", 0, []int{0}, []int{0, 0, 3, 0, 2, 0, 1, 0, 0}},
		{"the other curl", "X+[1,1,2,2]", 0, []int{0}, []int{1, 0, 1, 0, 0, 0, 3, 0, 2}},
		{"two rings that cross once", "X+[2,1,2,1]", 0, []int{0}, []int{1, 0, 2, 0, 3, 0, 0, 0, 1}},
		{"the trefoil", "X-[1,4,2,5] X-[3,6,4,1] X-[5,2,6,3]", 0, []int{0, 1, 2}, trefoil},
		{"the trefoil from its second crossing", "X-[1,4,2,5] X-[3,6,4,1] X-[5,2,6,3]", 1, []int{1, 2, 0}, trefoil},
		{"the trefoil from its last crossing", "X-[1,4,2,5] X-[3,6,4,1] X-[5,2,6,3]", 2, []int{2, 0, 1}, trefoil},
		{"two strands that cross to and fro", "X-[1,3,2,4] X+[2,3,1,4]", 0, []int{0, 1}, []int{
			0, 1, 2, 1, 1, 1, 0, 1, 3,
			1, 0, 2, 0, 1, 0, 0, 0, 3,
		}},
		{"the same from the other crossing", "X-[1,3,2,4] X+[2,3,1,4]", 1, []int{1, 0}, []int{
			1, 1, 2, 1, 1, 1, 0, 1, 3,
			0, 0, 2, 0, 1, 0, 0, 0, 3,
		}},
		{"the second piece alone", "X-[1,2,2,1] X+[3,3,4,4]", 1, []int{1}, []int{1, 0, 1, 0, 0, 0, 3, 0, 2}},
	} {
		got := told(x.text, x.first)
		if !slices.Equal(got.order, x.order) || !slices.Equal(got.code, x.code) {
			t.Errorf("%s: %v; wanted: %v, %v", x.what, got, x.order, x.code)
		}
	}
}

// P4.1: codes are compared number by number, not as texts; fewer crossings come first, whatever the code is.
func TestCompare(t *testing.T) {
	for _, x := range []struct {
		what string
		a, b telling
		want int
	}{
		{"the same", telling{[]int{0}, []int{1, 2}}, telling{[]int{5}, []int{1, 2}}, 0},
		{"the first number", telling{[]int{0}, []int{0, 9}}, telling{[]int{0}, []int{1, 2}}, -1},
		{"the last number", telling{[]int{0}, []int{1, 3}}, telling{[]int{0}, []int{1, 2}}, 1},
		{"10 is more than 9", telling{[]int{0}, []int{1, 10}}, telling{[]int{0}, []int{1, 9}}, 1},
		{"fewer crossings", telling{[]int{0}, []int{1}}, telling{[]int{0, 1}, []int{0, 0}}, -1},
	} {
		if got, back := compare(x.a, x.b), compare(x.b, x.a); got != x.want || back != -x.want {
			t.Error(x.what, got, back, "wanted:", x.want)
		}
	}
}

// otherEnd of the arc at a place of a crossing, found by looking at all places.
func otherEnd(d api.Diagram, cross, place int) (int, int) {
	arc := drawing.Arcs(d.Crosses[cross])[place]
	for k, c := range d.Crosses {
		for p, x := range drawing.Arcs(c) {
			if x == arc && (k != cross || p != place) {
				return k, p
			}
		}
	}
	panic("an arc has two ends")
}

// toldByWords: as P4.1 says: all crossings are numbered first, and told then.
func toldByWords(d api.Diagram, first int) telling {
	var t telling
	t.order = append(t.order, first)
	for i := 0; i < len(t.order); i++ {
		for place := range 4 {
			if k, _ := otherEnd(d, t.order[i], place); !slices.Contains(t.order, k) {
				t.order = append(t.order, k)
			}
		}
	}
	for _, k := range t.order {
		plus := 0
		if d.Crosses[k].Plus {
			plus = 1
		}
		t.code = append(t.code, plus)
		for place := range 4 {
			far, there := otherEnd(d, k, place)
			t.code = append(t.code, slices.Index(t.order, far), there)
		}
	}
	return t
}

// P4.1: of drawn ones, from each crossing.
func TestCodesByWords(t *testing.T) {
	for _, d := range samples.EveryOne() {
		w, _ := drawing.Of(d)
		for k := range d.Crosses {
			got, want := toldFrom(w, k), toldByWords(d, k)
			if !slices.Equal(got.order, want.order) || !slices.Equal(got.code, want.code) {
				t.Fatal(d, k, got, "wanted:", want)
			}
		}
	}
}

// ofCodes: the diagram of which codes tell, piece behind piece, arcs being numbered in the order in which they first stand.
func ofCodes(l []telling, loops int) api.Diagram {
	d := api.Diagram{Loops: loops}
	arcs := 0
	for _, t := range l {
		laid := make([][4]int, len(t.order))
		for i := range laid {
			row := t.code[9*i : 9*i+9]
			for place := range 4 {
				if laid[i][place] == 0 {
					arcs++
					laid[i][place], laid[row[1+2*place]][row[2+2*place]] = arcs, arcs
				}
			}
			a := laid[i]
			d.Crosses = append(d.Crosses, api.Cross{A: a[0], B: a[1], C: a[2], D: a[3], Plus: row[0] == 1})
		}
	}
	return d
}

// formByWords: as P4.2 says: of each piece the least code of all its crossings, and pieces in their order.
func formByWords(d api.Diagram) api.Diagram {
	var pieces []telling
	done := map[int]bool{}
	for k := range d.Crosses {
		if done[k] {
			continue
		}
		least := toldByWords(d, k)
		for _, other := range least.order {
			done[other] = true
			if t := toldByWords(d, other); slices.Compare(t.code, least.code) < 0 {
				least = t
			}
		}
		pieces = append(pieces, least)
	}
	slices.SortFunc(pieces, func(a, b telling) int {
		if len(a.order) != len(b.order) {
			return len(a.order) - len(b.order)
		}
		return slices.Compare(a.code, b.code)
	})
	return ofCodes(pieces, d.Loops)
}

// manyPieces: drawn diagrams of several pieces, most of them small, so that some have like codes.
func manyPieces() []api.Diagram {
	die := samples.Die(8)
	var l []api.Diagram
	for range 300 {
		d := samples.Knotted(&die, 1+die.Below(2))
		for len(d.Crosses) < 2+die.Below(11) {
			d = samples.Beside(d, samples.Knotted(&die, 1+die.Below(3)))
		}
		d.Loops = die.Below(3)
		l = append(l, samples.Renamed(&die, d))
	}
	return l
}

// P4.2: of drawn ones, of one piece and of several.
func TestCanonByWords(t *testing.T) {
	pieces, like, unlike := map[int]int{}, 0, 0
	for _, d := range append(samples.EveryOne(), manyPieces()...) {
		got, e := Canon(d)
		if want := formByWords(d); e != api.OK || !samples.Alike(got, want) {
			t.Fatal(d, got, e, "wanted:", want)
		}
		w, _ := drawing.Of(d)
		l := leastTellings(w)
		pieces[len(l)]++
		for i := 1; i < len(l); i++ {
			if len(l[i].order) == len(l[i-1].order) && compare(l[i-1], l[i]) == 0 {
				like++
			} else if len(l[i].order) == len(l[i-1].order) {
				unlike++
			}
		}
	}
	if pieces[0] == 0 || pieces[1] < 50 || pieces[2] < 50 || pieces[4] < 20 || like < 50 || unlike < 50 {
		t.Error("too few of one kind:", pieces, like, unlike)
	}
}
