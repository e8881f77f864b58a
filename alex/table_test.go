package alex_test

import (
	"slices"
	"testing"

	"knotwork/api"
	"knotwork/moved"
	"knotwork/poly"
	"knotwork/samples"
)

// P8.1: tables that were made by hand.
func TestTableByHand(t *testing.T) {
	for _, x := range []struct {
		what, text string
		want       [][]string
	}{
		{"the trefoil", "X-[1,4,2,5] X-[3,6,4,1] X-[5,2,6,3]", [][]string{
			{"1", "-t", "-1 + t"}, {"-1 + t", "1", "-t"}, {"-t", "-1 + t", "1"}}},
		{"its mirror image", "X+[4,2,5,1] X+[6,4,1,3] X+[2,6,3,5]", [][]string{
			{"-1 + t", "-t", "1"}, {"1", "-1 + t", "-t"}, {"-t", "1", "-1 + t"}}},
		{"a curl that is Plus: all is of one overpass", "X+[1,1,2,2]", [][]string{{"0"}}},
		{"a curl that is not", "X-[2,1,1,2]", [][]string{{"0"}}},
		{"two rings, linked: each comes in below as it goes out", "X+[4,2,1,3] X+[2,4,3,1]", [][]string{
			{"1 - t", "-1 + t"}, {"-1 + t", "1 - t"}}},
		{"two rings, one upon the other", "X+[2,3,1,4] X-[1,3,2,4]", [][]string{
			{"1", "-t", "-1 + t"}, {"1", "-t", "-1 + t"}}},
		{"the same, the upper one's arcs come first", "X+[4,1,3,2] X-[3,1,4,2]", [][]string{
			{"-1 + t", "1", "-t"}, {"-1 + t", "1", "-t"}}},
		{"a curl of two overpasses, beside two: what comes in is above, or what goes out", "X-[1,6,2,7] X-[7,2,8,3] X-[3,8,4,1] X-[4,5,5,6]", [][]string{
			{"1", "-t", "0", "-1 + t"}, {"-t", "-1 + t", "0", "1"}, {"-1 + t", "1", "-t", "0"}, {"0", "0", "1", "-1"}}},
		{"two pieces and a loop", "X+[4,4,1,1] X-[2,3,3,2] O", [][]string{{"0", "0"}, {"0", "0"}}},
		{"one loop", "O", nil},
	} {
		got := tableOf(t, samples.OfText(x.text))
		for k, row := range got {
			var texts []string
			for _, place := range row {
				s, e := poly.Text(place)
				if e != api.OK {
					t.Fatal(x.what, place, e)
				}
				texts = append(texts, s)
			}
			if !slices.Equal(texts, x.want[k]) {
				t.Error(x.what, "row", k, texts, "wanted:", x.want[k])
			}
		}
	}
}

// P8.1: each place, by the chapter's words; the coefficients at t to the power of 0 and of 1 are numbers here.
func TestTable(t *testing.T) {
	shared := [2]int{}
	for _, d := range smallOnes() {
		got := tableOf(t, d)
		over, count := overs(t, d)
		for k, c := range d.Crosses {
			want := make([][2]int, count)
			below := [2]int{over[c.A-1], over[c.C-1]}
			if c.Plus {
				want[below[1]][0]++
				want[below[0]][1]--
			} else {
				want[below[0]][0]++
				want[below[1]][1]--
			}
			above := over[c.D-1]
			want[above][0]--
			want[above][1]++
			if (above == below[0]) != (above == below[1]) {
				if above == below[0] {
					shared[0]++
				} else {
					shared[1]++
				}
			}
			if len(got[k]) != count {
				t.Fatal(d, k, got[k], "wanted so many places:", count)
			}
			for place, numbers := range want {
				if !slices.Equal(got[k][place], linear(numbers)) {
					t.Fatal(d, k, place, got[k][place], "wanted:", numbers)
				}
			}
		}
	}
	if shared[0] < 20 || shared[1] < 20 {
		t.Error("too few crossings that share a place:", shared)
	}
}

// linear: the polynomial with these coefficients of 1 and t.
func linear(numbers [2]int) []api.Term {
	var a []api.Term
	for exp, coef := range numbers {
		if coef != 0 {
			a = append(a, api.Term{Exp: exp, Coef: coef})
		}
	}
	return a
}

// P8.1: diagrams of as many crossings as the chapter takes, with as many loops as may be, and with many more overpasses than crossings.
func TestTableEdges(t *testing.T) {
	ten := tableOf(t, samples.Beside(samples.Chain(most, true), samples.With(api.MaxLoops)))
	if len(ten) != most || len(ten[0]) != most {
		t.Error(ten)
	}
	upon := tableOf(t, moved.RingsUpon(most/2))
	for k, row := range upon {
		if len(row) != most+most/2 {
			t.Error(k, row)
		}
	}
}
