package code_test

import (
	"slices"
	"testing"

	"knotwork/api"
	"knotwork/code"
	"knotwork/samples"
)

// roomy: the diagram with spare room behind its crossings, which is not empty.
func roomy(d api.Diagram) api.Diagram {
	spare := slices.Repeat([]api.Cross{{A: 77, B: 78, C: 79, D: 80, Plus: true}}, 20)
	return api.Diagram{Crosses: slices.Concat(d.Crosses, spare)[:len(d.Crosses)], Loops: d.Loops}
}

// What holds everywhere: what is handed in stays as it is, spare room too.
func TestNothingChanges(t *testing.T) {
	for _, d := range []api.Diagram{samples.Trefoil(), read(t, "X-[1,2,1,2] O"), of(0, api.Cross{A: 9}), of(0)} {
		given := roomy(d)
		want := slices.Clone(given.Crosses[:cap(given.Crosses)])
		code.May(given)
		code.Faces(given)
		code.Planar(given)
		code.Show(given)
		if !slices.Equal(given.Crosses[:cap(given.Crosses)], want) {
			t.Error(d, "was changed")
		}
	}
}

// What holds everywhere: no two lists of what Faces answers share memory, spare room neither; and it is new each time.
func TestMemoryOfFaces(t *testing.T) {
	d := samples.Trefoil()
	want, _ := code.Faces(d)
	for i := range want {
		got, _ := code.Faces(d)
		spoiled := got[i][:cap(got[i])]
		for j := range spoiled {
			spoiled[j] = api.Dart{Arc: 99}
		}
		for k := range want {
			if k != i && !slices.Equal(got[k], want[k]) {
				t.Error("the faces", i, "and", k, "share memory")
			}
		}
	}
	again, _ := code.Faces(d)
	if !slices.EqualFunc(again, want, slices.Equal[[]api.Dart]) {
		t.Error("answers otherwise a second time:", again)
	}
}

// What holds everywhere: what Read answers is new each time.
func TestMemoryOfRead(t *testing.T) {
	s := "X-[1,4,2,5] X-[3,6,4,1] X-[5,2,6,3]"
	first := read(t, s)
	clear(first.Crosses[:cap(first.Crosses)])
	if second := read(t, s); !same(second, samples.Trefoil()) {
		t.Error(second)
	}
}
