package code_test

import (
	"testing"

	"knotwork/api"
	"knotwork/code"
	"knotwork/samples"
)

// What holds everywhere: what is handed in stays as it is, spare room too.
func TestNothingChanges(t *testing.T) {
	for _, d := range []api.Diagram{samples.Trefoil(), read(t, "X-[1,2,1,2] O"), samples.With(0, api.Cross{A: 9}), samples.With(0)} {
		if !samples.Unchanged(d, func(given api.Diagram) {
			code.May(given)
			code.Faces(given)
			code.Planar(given)
			code.Show(given)
		}) {
			t.Error(d, "was changed")
		}
	}
}

// What holds everywhere: no two lists of what Faces answers share memory, spare room neither; and it is new each time.
func TestMemoryOfFaces(t *testing.T) {
	if !samples.Apart(api.Dart{Arc: 99}, func() [][]api.Dart {
		l, _ := code.Faces(samples.Trefoil())
		return l
	}) {
		t.Error("memory is shared")
	}
}

// What holds everywhere: what Read answers is new each time.
func TestMemoryOfRead(t *testing.T) {
	s := "X-[1,4,2,5] X-[3,6,4,1] X-[5,2,6,3]"
	first := read(t, s)
	clear(first.Crosses[:cap(first.Crosses)])
	if second := read(t, s); !samples.Alike(second, samples.Trefoil()) {
		t.Error(second)
	}
}
