package homfly_test

import (
	"testing"

	"knotwork/api"
	"knotwork/code"
	"knotwork/gauss"
	"knotwork/moved"
	"knotwork/samples"
)

// P11.1: crossings that were changed by hand.
func TestChangeByHand(t *testing.T) {
	for _, x := range []struct {
		what, text string
		at         int
		want       string
	}{
		{"the first of the trefoil", "X-[1,4,2,5] X-[3,6,4,1] X-[5,2,6,3]", 0, "X+[4,2,5,1] X-[3,6,4,1] X-[5,2,6,3]"},
		{"the second of the trefoil", "X-[1,4,2,5] X-[3,6,4,1] X-[5,2,6,3]", 1, "X-[1,4,2,5] X+[6,4,1,3] X-[5,2,6,3]"},
		{"the last of the trefoil", "X-[1,4,2,5] X-[3,6,4,1] X-[5,2,6,3]", 2, "X-[1,4,2,5] X-[3,6,4,1] X+[2,6,3,5]"},
		{"one that was changed", "X+[4,2,5,1] X-[3,6,4,1] X-[5,2,6,3]", 0, "X-[1,4,2,5] X-[3,6,4,1] X-[5,2,6,3]"},
		{"a curl beside loops", "X-[1,2,2,1] O O", 0, "X+[2,2,1,1] O O"},
		{"the other curl", "X+[1,1,2,2]", 0, "X-[2,1,1,2]"},
		{"one of two linked rings", "X+[4,2,1,3] X+[2,4,3,1]", 1, "X+[4,2,1,3] X-[1,2,4,3]"},
	} {
		if s, e := code.Show(change(t, samples.OfText(x.text), x.at)); e != api.OK || s != x.want {
			t.Errorf("%s: %q, %v; wanted: %q", x.what, s, e, x.want)
		}
	}
}

// P11.1: each crossing of many diagrams: it is as the mirror image has it, and all others are as they were; changed twice, it is what it was.
func TestChange(t *testing.T) {
	asked := map[bool]int{}
	for _, d := range smallOnes() {
		mirrored := moved.Mirrored(d)
		for k, c := range d.Crosses {
			asked[c.Plus]++
			got := change(t, d, k)
			if got.Loops != d.Loops || len(got.Crosses) != len(d.Crosses) || got.Crosses[k] != mirrored.Crosses[k] {
				t.Fatal(d, k, got)
			}
			for i := range d.Crosses {
				if i != k && got.Crosses[i] != d.Crosses[i] {
					t.Fatal(d, k, got, "differs at", i)
				}
			}
			if want := moved.Exchanged(d, k); !samples.Alike(got, want) {
				t.Fatal(d, k, got, "wanted:", want)
			}
			if again := change(t, got, k); !samples.Alike(again, d) {
				t.Fatal(d, k, "changed twice:", again)
			}
		}
	}
	if asked[true] < 500 || asked[false] < 500 {
		t.Error("too few:", asked)
	}
}

// P11.1: strands go as before; who went above at the crossing goes below there, and the other way round.
func TestChangeVisits(t *testing.T) {
	for _, d := range smallOnes() {
		was, plusWas, _ := gauss.Gauss(d)
		for k := range d.Crosses {
			is, plusIs, _ := gauss.Gauss(change(t, d, k))
			if len(is) != len(was) {
				t.Fatal(d, k, is, "before:", was)
			}
			for part := range was {
				for i, visit := range was[part] {
					visit.Over = visit.Over != (visit.Cross == k)
					if is[part][i] != visit {
						t.Fatal(d, k, is, "before:", was)
					}
				}
			}
			for i := range plusWas {
				if plusIs[i] == plusWas[i] != (i != k) {
					t.Fatal(d, k, plusIs, "before:", plusWas)
				}
			}
		}
	}
}
