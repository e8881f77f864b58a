package samples

import (
	"slices"

	"knotwork/api"
)

// WithRoom: the list with spare room behind it, filled with something.
func WithRoom[E any](l []E, fill E) []E {
	return slices.Concat(l, slices.Repeat([]E{fill}, 20))[:len(l)]
}

// Unchanged: is the diagram as it was, spare room too, when something was done with it?
func Unchanged(d api.Diagram, use func(api.Diagram)) bool {
	given := WithRoom(d.Crosses, api.Cross{A: 77, B: 78, C: 79, D: 80, Plus: true})
	want := slices.Clone(given[:cap(given)])
	use(api.Diagram{Crosses: given, Loops: d.Loops})
	return slices.Equal(given[:cap(given)], want)
}

// Apart: does no list of an answer share memory with another one, spare room neither, or with another answer? (Each list is filled with something in turn.)
func Apart[E comparable](fill E, ask func() [][]E) bool {
	want := ask()
	for i := range want {
		got := ask()
		spoiled := got[i][:cap(got[i])]
		for j := range spoiled {
			spoiled[j] = fill
		}
		for k := range want {
			if k != i && !slices.Equal(got[k], want[k]) {
				return false
			}
		}
	}
	return slices.EqualFunc(ask(), want, slices.Equal[[]E])
}
