package moves_test

import (
	"slices"
	"testing"

	"knotwork/api"
	"knotwork/samples"
)

// arcsOf a face, sorted.
func arcsOf(ring []api.Dart) []int {
	var l []int
	for _, d := range ring {
		l = append(l, d.Arc)
	}
	slices.Sort(l)
	return l
}

// faceOf these arcs, and of no others: its number.
func faceOf(d api.Diagram, arcs ...int) int {
	return slices.IndexFunc(facesOf(d), func(ring []api.Dart) bool { return slices.Equal(arcsOf(ring), arcs) })
}

// P5.5: slides that were found by hand, at the face of the arcs 1, 2 and 3.
func TestSlideByHand(t *testing.T) {
	for _, x := range []struct{ what, d, want string }{
		{"all Plus", "X+[6,2,1,5] X+[4,4,3,2] X+[3,6,5,1]", "X+[1,4,6,2] X+[3,2,5,5] X+[4,1,3,6]"},
		{"one not Plus", "X+[6,2,1,5] X+[4,4,3,2] X-[1,3,6,5]", "X+[1,4,6,2] X+[3,2,5,5] X-[6,4,1,3]"},
		{"with loops", "X+[6,2,1,5] X+[4,4,3,2] X+[3,6,5,1] O O", "X+[1,4,6,2] X+[3,2,5,5] X+[4,1,3,6] O O"},
	} {
		d := samples.OfText(x.d)
		if s := show(do(t, d, slide(faceOf(d, 1, 2, 3)))); s != x.want {
			t.Errorf("%s: %q; wanted: %q", x.what, s, x.want)
		}
	}
}

// P5.5: each face of many diagrams; slid again at the face of the same arcs, a diagram is what it was, number by number.
func TestSlide(t *testing.T) {
	die := samples.Die(23)
	count := map[api.Errno]int{}
	for _, d := range samples.FlatOnes() {
		for range 2 {
			faces := facesOf(d)
			for at := -1; at <= len(faces); at++ {
				slid, e := asByWords(t, d, slide(at))
				if count[e]++; e != api.OK {
					continue
				}
				if again := do(t, slid, slide(faceOf(slid, arcsOf(faces[at])...))); !samples.Alike(again, d) {
					t.Fatal(d, at, slid, "slid again:", again)
				}
			}
			d = samples.Renamed(&die, d)
		}
	}
	eachAnswer(t, count, 50, api.OK, api.ErrRange, api.ErrNone)
}

// P5.5: which faces there are: the first and the last, one more, and below 0; loops have none.
func TestSlideRange(t *testing.T) {
	for _, d := range []api.Diagram{samples.With(3), samples.OfText("X-[1,2,2,1]"), samples.Trefoil(), samples.Chain(16, true), samples.Weave(3, []int{1, 2, 1, 2, 1, 2})} {
		faces := len(facesOf(d))
		for _, at := range numbersAround(0, faces-1) {
			if got, e := asByWords(t, d, slide(at)); (e == api.ErrRange) != (at < 0 || at >= faces) {
				t.Error(d, at, got, e)
			}
		}
	}
}

// P5.5: faces that are not so.
func TestSlideNone(t *testing.T) {
	for _, x := range []struct {
		what string
		d    api.Diagram
		arcs []int
	}{
		{"each arc goes from above to below", samples.OfText("X+[6,2,1,5] X-[2,4,4,3] X+[3,6,5,1]"), []int{1, 2, 3}},
		{"the trefoil's", samples.Trefoil(), []int{1, 3, 5}},
		{"an arc leads from a crossing to itself", samples.OfText("X-[4,2,2,1] X-[3,1,4,3]"), []int{1, 3, 4}},
		{"one dart", samples.OfText("X-[4,2,2,1] X-[3,1,4,3]"), []int{3}},
		{"two darts, above and below", samples.OfText("X-[1,3,2,4] X+[2,3,1,4]"), []int{1, 3}},
		{"four darts, above and below", samples.Weave(3, []int{1, 2, 2, 1}), []int{1, 2, 3, 5}},
	} {
		at := faceOf(x.d, x.arcs...)
		if got, e := asByWords(t, x.d, slide(at)); e != api.ErrNone {
			t.Error(x.what, at, got, e)
		}
	}
}
