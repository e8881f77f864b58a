package sign_test

import (
	"slices"
	"testing"

	"knotwork/api"
	"knotwork/samples"
	"knotwork/sign"
)

// What holds everywhere: what is handed in stays as it is, spare room too.
func TestNothingChanges(t *testing.T) {
	ones := append(singles()[:40], samples.Trefoil(), samples.OfText("X-[1,2,2,1] O"), samples.With(2), samples.OfText("X-[1,2,1,2]"), samples.With(0, api.Cross{A: 9}), samples.With(0))
	for _, d := range ones {
		if !samples.Unchanged(d, func(given api.Diagram) {
			sign.Shades(given)
			sign.Goeritz(given, 0)
			sign.Goeritz(given, 1)
			sign.Goeritz(given, 2)
			sign.Signature(given)
			sign.Arf(given)
		}) {
			t.Error(d, "was changed")
		}
	}
}

// What holds everywhere: no two lists of answers share memory, spare room neither, and each is new.
func TestMemory(t *testing.T) {
	for _, d := range []api.Diagram{samples.Trefoil(), samples.OfText("X+[1,1,2,2]"), samples.Weave(3, []int{1, -2, 1, -2, -2}), samples.Chain(api.MaxCross, true)} {
		for shade := range 2 {
			if !samples.Apart(99, func() [][]int {
				table, _ := goeritz(t, d, shade)
				again, _ := goeritz(t, d, shade)
				return append(slices.Concat(table, again), shades(t, d), shades(t, d))
			}) {
				t.Error(d, shade, "memory is shared")
			}
			outer, _ := goeritz(t, d, shade)
			clear(outer[:cap(outer)])
			if again, _ := goeritz(t, d, shade); again[0] == nil {
				t.Error(d, shade, "the outer list is kept")
			}
		}
	}
}
