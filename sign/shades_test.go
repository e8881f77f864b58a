package sign_test

import (
	"slices"
	"testing"

	"knotwork/api"
	"knotwork/code"
	"knotwork/moved"
	"knotwork/samples"
)

// P9.1: faces that were walked and shaded by hand.
func TestShadesByHand(t *testing.T) {
	for _, x := range []struct {
		what, text string
		want       []int
	}{
		{"the trefoil", "X-[1,4,2,5] X-[3,6,4,1] X-[5,2,6,3]", []int{0, 1, 1, 0, 1}},
		{"its mirror image", "X+[4,2,5,1] X+[6,4,1,3] X+[2,6,3,5]", []int{0, 1, 1, 0, 1}},
		{"a curl that is Plus", "X+[1,1,2,2]", []int{0, 1, 1}},
		{"a curl that is not", "X-[2,1,1,2]", []int{0, 1, 1}},
		{"a curl within", "X-[1,2,2,1]", []int{0, 1, 0}},
		{"two rings, linked", "X+[4,2,1,3] X+[2,4,3,1]", []int{0, 1, 0, 1}},
		{"the same, one of them the other way round", "X-[1,3,4,2] X-[2,4,3,1]", []int{0, 1, 1, 0}},
	} {
		if got := shades(t, samples.OfText(x.text)); !slices.Equal(got, x.want) {
			t.Error(x.what, got, "wanted:", x.want)
		}
	}
}

// faceOf each dart, by chapter 2's Faces; and how many faces there are.
func faceOf(t *testing.T, d api.Diagram) (map[api.Dart]int, int) {
	t.Helper()
	faces, e := code.Faces(d)
	if e != api.OK {
		t.Fatal(d, e)
	}
	of := map[api.Dart]int{}
	for i, ring := range faces {
		for _, dart := range ring {
			of[dart] = i
		}
	}
	return of, len(faces)
}

// P9.1: on both sides of an arc there are unlike shades, 0 and 1; the first face has 0; each face has one.
func TestShades(t *testing.T) {
	third := [2]int{}
	for _, d := range singles() {
		got := shades(t, d)
		of, count := faceOf(t, d)
		if len(got) != count || got[0] != 0 {
			t.Fatal(d, got)
		}
		for arc := 1; arc <= 2*len(d.Crosses); arc++ {
			left, right := got[of[api.Dart{Arc: arc}]], got[of[api.Dart{Arc: arc, Back: true}]]
			if left+right != 1 || left*right != 0 {
				t.Fatal(d, got, "beside arc", arc)
			}
		}
		third[got[2]]++
	}
	if third[0] < 20 || third[1] < 20 {
		t.Error("too few whose third face has that shade:", third)
	}
}

// P9.1: of as many crossings as may be: two faces of one shade and all others of the other one.
func TestShadesEdges(t *testing.T) {
	for _, plus := range []bool{false, true} {
		got := shades(t, samples.Chain(api.MaxCross, plus))
		ones := 0
		for _, shade := range got {
			ones += shade
		}
		if len(got) != api.MaxCross+2 || ones != 2 && ones != api.MaxCross {
			t.Error(plus, got)
		}
	}
	for by := range 4 {
		if got := shades(t, moved.Curls(api.MaxCross, by)); len(got) != api.MaxCross+2 {
			t.Error(by, got)
		}
	}
}
