package canon

import (
	"cmp"
	"slices"

	"knotwork/api"
	"knotwork/drawing"
)

// telling of a piece: its crossings in the order of their numbers, and its code.
type telling struct{ order, code []int }

// toldFrom: the telling of the piece in which a crossing lies, from that crossing on.
func toldFrom(w drawing.Drawing, first int) telling {
	t := telling{order: []int{first}}
	numbers := map[int]int{first: 0}
	for i := 0; i < len(t.order); i++ {
		k := t.order[i]
		t.code = append(t.code, sign(w.Crosses[k]))
		// Whatever a crossing's code names has its number once that crossing was
		// gone round, so numbering and telling need no second walk.
		for side := range drawing.Arcs(w.Crosses[k]) {
			far := w.End(w.Leaving(drawing.Spot{Cross: k, Side: side}))
			number, known := numbers[far.Cross]
			if !known {
				number = len(t.order)
				numbers[far.Cross] = number
				t.order = append(t.order, far.Cross)
			}
			t.code = append(t.code, number, far.Side)
		}
	}
	return t
}

// sign of a crossing, as codes tell it.
func sign(c api.Cross) int {
	if c.Plus {
		return 1
	}
	return 0
}

// compare tellings: fewer crossings are less, then the less code.
func compare(a, b telling) int {
	if c := cmp.Compare(len(a.order), len(b.order)); c != 0 {
		return c
	}
	return slices.Compare(a.code, b.code)
}

// leastTellings: of each piece its least telling; in the order of these.
func leastTellings(w drawing.Drawing) []telling {
	piece, count := w.Pieces()
	least := make([]telling, count)
	for k, p := range piece {
		t := toldFrom(w, k)
		if len(least[p].order) == 0 || compare(t, least[p]) < 0 {
			least[p] = t
		}
	}
	slices.SortFunc(least, compare)
	return least
}

// canonical form of a drawing.
func canonical(w drawing.Drawing) api.Diagram {
	d := api.Diagram{Loops: w.Loops}
	numbers := map[int]int{}
	number := func(_, arc int) int {
		if numbers[arc] == 0 {
			next := len(numbers) + 1
			numbers[arc] = next
		}
		return numbers[arc]
	}
	for _, t := range leastTellings(w) {
		for _, k := range t.order {
			d.Crosses = append(d.Crosses, drawing.Renumbered(w.Crosses[k], number))
		}
	}
	return d
}
