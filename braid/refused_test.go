package braid_test

import (
	"slices"
	"testing"

	"knotwork/api"
	"knotwork/braid"
	"knotwork/samples"
)

// All calls: what is refused, and by which error; with it all other results are zero.
func TestRefused(t *testing.T) {
	for _, x := range samples.RefusedWords() {
		if l, e := braid.Ends(x.Strands, x.Word); e != x.Want || len(l) != 0 {
			t.Error("Ends:", x.What, x.Strands, l, e)
		}
		if l, e := braid.Act(x.Strands, x.Word); e != x.Want || len(l) != 0 {
			t.Error("Act:", x.What, x.Strands, l, e)
		}
		if power, l, e := braid.Normal(x.Strands, x.Word); e != x.Want || power != 0 || len(l) != 0 {
			t.Error("Normal:", x.What, x.Strands, power, l, e)
		}
		for _, other := range [][]int{nil, {1}, {-1, -1}} {
			if ok, e := braid.Equal(x.Strands, x.Word, other); e != x.Want || ok {
				t.Error("Equal, first:", x.What, x.Strands, ok, e)
			}
			if ok, e := braid.Equal(x.Strands, other, x.Word); e != x.Want || ok {
				t.Error("Equal, second:", x.What, x.Strands, ok, e)
			}
		}
		if ok, e := braid.Equal(x.Strands, x.Word, slices.Clone(x.Word)); e != x.Want || ok {
			t.Error("Equal, both:", x.What, x.Strands, ok, e)
		}
	}
}

// P13.4: what is wrong with a letter of either word is ahead of the length of either.
func TestEqualRefusesLettersFirst(t *testing.T) {
	long, wrong := slices.Repeat([]int{1, 2}, api.MaxWord), []int{1, 3}
	for _, x := range []struct {
		u, v []int
		want api.Errno
	}{
		{long, wrong, api.ErrRange},
		{wrong, long, api.ErrRange},
		{long, nil, api.ErrSize},
		{nil, long, api.ErrSize},
		{long, long, api.ErrSize},
	} {
		if ok, e := braid.Equal(3, x.u, x.v); e != x.want || ok {
			t.Error(len(x.u), len(x.v), ok, e, "wanted:", x.want)
		}
	}
}

// All calls: edges that are not refused.
func TestNotRefused(t *testing.T) {
	for n := 2; n <= api.MaxStrands; n++ {
		for _, x := range []int{1, -1, n - 1, 1 - n} {
			for _, letters := range []int{1, api.MaxWord} {
				w := slices.Repeat([]int{x}, letters)
				ends(t, n, w)
				act(t, n, w)
				normal(t, n, w)
				if !equal(t, n, w, w) {
					t.Error(n, w)
				}
			}
		}
	}
}
