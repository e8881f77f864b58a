package table_test

import (
	"math"
	"testing"

	"knotwork/api"
	"knotwork/moved"
	"knotwork/samples"
	"knotwork/table"
)

// refuses: is nothing but that error answered?
func refuses(t *testing.T, what string, d api.Diagram, depth int, want api.Errno) {
	t.Helper()
	if l, e := table.Seek(d, depth); len(l) != 0 || e != want {
		t.Error(what, d, depth, l, e, "wanted:", want)
	}
}

// wrongDepths: some that are not from 0 to 5.
func wrongDepths() []int {
	return []int{-1, -2, -100, math.MinInt, mostDepth + 1, mostDepth + 2, 100, math.MaxInt}
}

// P16.1: there are tables of 3 to 5 crossings alone.
func TestTableRange(t *testing.T) {
	for _, n := range []int{math.MinInt, -5, -4, -3, -1, 0, 1, fewest - 1, most + 1, most + 2, api.MaxCross, 64, math.MaxInt} {
		if l, e := table.Table(n); len(l) != 0 || e != api.ErrRange {
			t.Error(n, l, e)
		}
	}
	for n := fewest; n <= most; n++ {
		if len(texts(t, n)) == 0 {
			t.Error(n)
		}
	}
}

// P16.2: a depth that is not from 0 to 5 is refused ahead of all else.
func TestDepths(t *testing.T) {
	for _, depth := range wrongDepths() {
		for _, x := range samples.RefusedOnes(mostCross) {
			refuses(t, x.What, x.Diagram, depth, api.ErrRange)
		}
		refuses(t, "many crossings", samples.Chain(mostCross+1, true), depth, api.ErrRange)
		refuses(t, "no way", samples.Trefoil(), depth, api.ErrRange)
		refuses(t, "loops", samples.With(1), depth, api.ErrRange)
		refuses(t, "a curl", moved.Curls(1, 0), depth, api.ErrRange)
	}
}

// P16.2: what may not be, or lies on no sphere, is refused ahead of what has too many crossings, and of what has no way.
func TestState(t *testing.T) {
	for _, x := range samples.RefusedOnes(mostCross) {
		for depth := range mostDepth + 1 {
			refuses(t, x.What, x.Diagram, depth, api.ErrState)
		}
	}
	for _, d := range samples.TwistedOnes() {
		refuses(t, "on no sphere", d, mostDepth, api.ErrState)
	}
	many := make([]api.Cross, 100000)
	refuses(t, "very many crossings", samples.With(1, many...), mostDepth, api.ErrState)
}

// P16.2: more than 8 crossings are too many, at every depth, whether there would be a way or not.
func TestSize(t *testing.T) {
	for _, x := range moved.Beyond(mostCross) {
		for depth := range mostDepth + 1 {
			refuses(t, x.What, x.Diagram, depth, api.ErrSize)
		}
	}
}
