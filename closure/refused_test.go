package closure_test

import (
	"slices"
	"testing"

	"knotwork/api"
	"knotwork/closure"
	"knotwork/samples"
)

// Both calls: what is refused, and by which error; with it all else is zero.
func TestRefused(t *testing.T) {
	for _, x := range samples.RefusedWords() {
		if d, e := closure.Close(x.Strands, x.Word); e != x.Want || len(d.Crosses) != 0 || d.Loops != 0 {
			t.Error("Close:", x.What, x.Strands, d, e, "wanted:", x.Want)
		}
		if m, e := closure.Burau(x.Strands, x.Word); e != x.Want || len(m) != 0 {
			t.Error("Burau:", x.What, x.Strands, m, e, "wanted:", x.Want)
		}
	}
}

// Close refuses words of more letters than there may be crossings, too: behind wrong letters. Burau takes them.
func TestCloseRefusesCrossings(t *testing.T) {
	for letters := api.MaxCross + 1; letters <= api.MaxWord; letters++ {
		for n := 2; n <= api.MaxStrands; n++ {
			for _, x := range []int{1, -1, n - 1, 1 - n} {
				w := slices.Repeat([]int{x}, letters)
				if d, e := closure.Close(n, w); e != api.ErrSize || len(d.Crosses) != 0 || d.Loops != 0 {
					t.Error(n, w, d, e)
				}
				burau(t, n, w)
				for _, wrong := range []int{0, n, -n} {
					w[letters-1] = wrong
					if d, e := closure.Close(n, w); e != api.ErrRange || len(d.Crosses) != 0 || d.Loops != 0 {
						t.Error(n, w, d, e)
					}
				}
			}
		}
	}
	// Letters are counted as they stand, though a letter and its reciprocal come to nothing.
	if d, e := closure.Close(2, append(slices.Repeat([]int{1, -1}, api.MaxCross/2), 1)); e != api.ErrSize || len(d.Crosses) != 0 {
		t.Error(d, e)
	}
}

// Both calls: edges that are not refused.
func TestNotRefused(t *testing.T) {
	for n := 2; n <= api.MaxStrands; n++ {
		if d := closed(t, n, nil); len(d.Crosses) != 0 || d.Loops != n {
			t.Error(n, d)
		}
		burau(t, n, nil)
		for _, x := range []int{1, -1, n - 1, 1 - n} {
			if d := closed(t, n, slices.Repeat([]int{x}, api.MaxCross)); len(d.Crosses) != api.MaxCross || d.Loops != n-2 {
				t.Error(n, x, d)
			}
			burau(t, n, slices.Repeat([]int{x}, api.MaxWord))
		}
	}
}
