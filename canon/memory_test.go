package canon_test

import (
	"testing"

	"knotwork/api"
	"knotwork/canon"
	"knotwork/samples"
)

// What holds everywhere: what is handed in stays as it is, spare room too.
func TestNothingChanges(t *testing.T) {
	ones := []api.Diagram{samples.Trefoil(), samples.Chain(2, true), samples.Renamed(new(samples.Die), samples.Chain(9, false)), samples.OfText("X-[1,2,1,2] O"), samples.With(2), samples.With(0, api.Cross{A: 9}), samples.With(0)}
	for _, d := range ones {
		if !samples.Unchanged(d, func(given api.Diagram) {
			canon.Canon(given)
			canon.Mirror(given)
			canon.Reverse(given, 0)
			canon.Reverse(given, 1)
			canon.Reverse(given, 2)
		}) {
			t.Error(d, "was changed")
		}
		for _, other := range ones {
			if !samples.Unchanged(d, func(given api.Diagram) {
				canon.Same(given, other)
				canon.Same(other, given)
				canon.Same(given, given)
				canon.Sum(given, 1, other, 2)
				canon.Sum(other, 1, given, 2)
				canon.Sum(given, 2, given, 1)
			}) {
				t.Error(d, "was changed beside", other)
			}
		}
	}
}

// What holds everywhere: what is answered is new memory, shared neither with what was handed in nor with another answer; and it is the same each time.
func TestMemory(t *testing.T) {
	d := samples.Beside(samples.Chain(4, true), samples.Beside(form(t, samples.Trefoil()), samples.OfText("X-[1,2,2,1]")))
	for _, x := range []struct {
		what string
		ask  func() (api.Diagram, api.Errno)
	}{
		{"Canon", func() (api.Diagram, api.Errno) { return canon.Canon(d) }},
		{"Canon of what is its own form", func() (api.Diagram, api.Errno) { return canon.Canon(form(t, d)) }},
		{"Mirror", func() (api.Diagram, api.Errno) { return canon.Mirror(d) }},
		{"Reverse", func() (api.Diagram, api.Errno) { return canon.Reverse(d, 0) }},
		{"Reverse of another part", func() (api.Diagram, api.Errno) { return canon.Reverse(d, 3) }},
		{"Sum", func() (api.Diagram, api.Errno) { return canon.Sum(d, 16, d, 1) }},
	} {
		was := samples.Beside(d, samples.With(0))
		if !samples.Apart(api.Cross{A: 99}, func() [][]api.Cross {
			got, e := x.ask()
			if e != api.OK {
				t.Error(x.what, got, e)
			}
			return [][]api.Cross{got.Crosses}
		}) || !samples.Alike(d, was) {
			t.Error(x.what, "memory is shared")
		}
	}
}
