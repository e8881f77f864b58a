package homfly_test

import (
	"math"
	"testing"

	"knotwork/api"
	"knotwork/homfly"
	"knotwork/moved"
	"knotwork/samples"
)

// asked: calls that take a crossing.
func asked() map[string]func(api.Diagram, int) (api.Diagram, api.Errno) {
	return map[string]func(api.Diagram, int) (api.Diagram, api.Errno){"Change": homfly.Change, "Smooth": homfly.Smooth}
}

// refuses: do the calls that take a crossing answer that error and nothing else?
func refuses(t *testing.T, what string, d api.Diagram, k int, want api.Errno) {
	t.Helper()
	for name, call := range asked() {
		if got, e := call(d, k); len(got.Crosses) != 0 || got.Loops != 0 || e != want {
			t.Error(name, what, d, k, got, e, "wanted:", want)
		}
	}
}

// polynomialsRefuse: do the calls that take a diagram alone answer that error and nothing else?
func polynomialsRefuse(t *testing.T, what string, d api.Diagram, want api.Errno) {
	t.Helper()
	if a, e := homfly.Homfly(d); len(a) != 0 || e != want {
		t.Error("Homfly:", what, d, a, e, "wanted:", want)
	}
	if a, e := homfly.Conway(d); len(a) != 0 || e != want {
		t.Error("Conway:", what, d, a, e, "wanted:", want)
	}
}

// missing: numbers of crossings that a diagram does not have.
func missing(d api.Diagram) []int {
	n := len(d.Crosses)
	return []int{math.MinInt, -n - 1, -2, -1, n, n + 1, api.MaxCross, 100, math.MaxInt}
}

// The chapter's opening: what may not be, and behind that what lies on no sphere, is refused ahead of crossings that are not there, and of too many.
func TestStateAndPlane(t *testing.T) {
	for _, x := range samples.RefusedOnes(most) {
		polynomialsRefuse(t, x.What, x.Diagram, x.Want)
		for _, k := range append(missing(x.Diagram), 0, 1, len(x.Crosses)-1) {
			refuses(t, x.What, x.Diagram, k, x.Want)
		}
	}
}

// P11.1: crossings that are not there are refused ahead of too many crossings; what has loops alone has none.
func TestRange(t *testing.T) {
	ones := append(smallOnes(), samples.With(1), samples.With(api.MaxLoops), samples.Trefoil())
	for _, x := range moved.Beyond(most) {
		ones = append(ones, x.Diagram)
	}
	for _, d := range ones {
		for _, k := range missing(d) {
			if k < 0 || k >= len(d.Crosses) {
				refuses(t, "no such crossing", d, k, api.ErrRange)
			}
		}
	}
}

// The chapter's opening: more than 8 crossings are too many, whatever else there is; 8 are not.
func TestSize(t *testing.T) {
	for _, x := range moved.Beyond(most) {
		polynomialsRefuse(t, x.What, x.Diagram, api.ErrSize)
		for k := range x.Crosses {
			refuses(t, x.What, x.Diagram, k, api.ErrSize)
		}
	}
	for by := range 4 {
		d := moved.Curls(most, by)
		if a, b := homflyOf(t, d), conway(t, d); len(a) != 1 || len(b) != 1 {
			t.Error(by, a, b)
		}
		for k := range most {
			change(t, d, k)
			smooth(t, d, k)
		}
	}
}
