package drawing_test

import (
	"slices"
	"testing"

	"knotwork/api"
	"knotwork/drawing"
	"knotwork/samples"
)

// Darts come in order, each once; who has seen enough may stop, whichever way the last one went.
func TestDarts(t *testing.T) {
	w, ok := drawing.Of(samples.Trefoil())
	if !ok {
		t.Fatal("the trefoil may be")
	}
	for most := 1; most <= 12; most++ {
		count := 0
		for d := range w.Darts() {
			if want := (api.Dart{Arc: count/2 + 1, Back: count%2 == 1}); d != want {
				t.Fatal(d, "wanted:", want)
			}
			if count++; count == most {
				break
			}
		}
		if count != most {
			t.Error(count, "darts; wanted:", most)
		}
	}
}

// Pieces are numbered by their first crossings.
func TestPieces(t *testing.T) {
	d := samples.Beside(samples.Trefoil(), samples.Chain(2, true))
	d.Crosses[1], d.Crosses[3] = d.Crosses[3], d.Crosses[1]
	w, _ := drawing.Of(d)
	piece, count := w.Pieces()
	for k, want := range []int{0, 1, 0, 0, 1} {
		if piece[k] != want {
			t.Error("crossing", k, "lies in", piece[k], "wanted:", want)
		}
	}
	if count != 2 || len(piece) != 5 {
		t.Error(piece, count)
	}
}

// A strand goes on across each crossing, and arcs tell whether it goes above at the next one.
func TestWalks(t *testing.T) {
	w, _ := drawing.Of(samples.Chain(2, true)) // X+[4,2,1,3] X+[2,4,3,1]
	for arc, want := range []struct {
		ahead int
		above bool
	}{1: {4, true}, 2: {3, false}, 3: {2, true}, 4: {1, false}} {
		if arc > 0 && (w.Ahead(arc) != want.ahead || w.Above(arc) != want.above) {
			t.Error("arc", arc, w.Ahead(arc), w.Above(arc), "wanted:", want)
		}
	}
	walks := w.Walks()
	if len(walks) != 2 || !slices.Equal(walks[0], []int{1, 4}) || !slices.Equal(walks[1], []int{2, 3}) {
		t.Error(walks)
	}
}
