package wind_test

import (
	"testing"

	"knotwork/api"
	"knotwork/samples"
	"knotwork/wind"
)

// What holds everywhere: what is handed in stays as it is, spare room too.
func TestNothingChanges(t *testing.T) {
	ones := append(samples.EveryOne()[:40], samples.Trefoil(), samples.OfText("X-[1,2,2,1] O"), samples.With(2), samples.OfText("X-[1,2,1,2]"), samples.With(0, api.Cross{A: 9}), samples.With(0))
	for _, d := range ones {
		if !samples.Unchanged(d, func(given api.Diagram) {
			wind.Writhe(given)
			wind.Linking(given)
			wind.Circles(given)
			wind.Genus(given)
		}) {
			t.Error(d, "was changed")
		}
	}
}

// What holds everywhere: no two lists of an answer share memory, spare room neither, and it is new each time.
func TestMemory(t *testing.T) {
	d := samples.Beside(samples.Weave(4, []int{1, 1, 2, 2, 3, 3}), samples.Beside(samples.Trefoil(), samples.OfText("X-[1,2,2,1]")))
	for what, ask := range map[string]func(api.Diagram) ([][]int, api.Errno){"Linking": wind.Linking, "Circles": wind.Circles} {
		if !samples.Apart(99, func() [][]int {
			l, e := ask(d)
			if e != api.OK || len(l) < 4 {
				t.Error(what, l, e)
			}
			return l
		}) {
			t.Error(what, "memory is shared")
		}
		outer, _ := ask(d)
		clear(outer[:cap(outer)])
		if again, _ := ask(d); again[0] == nil {
			t.Error(what, "the outer list is kept")
		}
	}
}
