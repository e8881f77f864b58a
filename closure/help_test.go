package closure_test

import (
	"slices"
	"testing"

	"knotwork/api"
	"knotwork/closure"
	"knotwork/poly"
	"knotwork/samples"
)

// closed: the link of a braid that is not refused.
func closed(t *testing.T, n int, w []int) api.Diagram {
	t.Helper()
	d, e := closure.Close(n, w)
	if e != api.OK {
		t.Fatal(n, w, e)
	}
	return d
}

type table = [][][]api.Term

// burau: the table of a braid that is not refused.
func burau(t *testing.T, n int, w []int) table {
	t.Helper()
	m, e := closure.Burau(n, w)
	if e != api.OK || len(m) != n {
		t.Fatal(n, w, m, e)
	}
	for _, row := range m {
		if len(row) != n {
			t.Fatal(n, w, m)
		}
	}
	return m
}

// alike: are both tables the same, place by place?
func alike(a, b table) bool {
	return slices.EqualFunc(a, b, func(x, y [][]api.Term) bool { return slices.EqualFunc(x, y, slices.Equal[[]api.Term]) })
}

// texts of a table's places, which are polynomials in form.
func texts(t *testing.T, m table) [][]string {
	t.Helper()
	var all [][]string
	for _, row := range m {
		var l []string
		for _, place := range row {
			s, e := poly.Text(place)
			if e != api.OK {
				t.Fatal(place, e)
			}
			l = append(l, s)
		}
		all = append(all, l)
	}
	return all
}

// size of a letter.
func size(x int) int { return max(x, -x) }

// toClose: braids whose links Close tells, of as many letters as may be or fewer.
func toClose() []samples.Braid { return samples.Braids(api.MaxCross) }

// toTable: braids whose tables Burau tells, of as many letters as may be or fewer.
func toTable() []samples.Braid { return samples.Braids(api.MaxWord) }

// The means of these tests: of each length there are enough words.
func TestMeans(t *testing.T) {
	for _, x := range []struct {
		most int
		all  []samples.Braid
	}{{api.MaxCross, toClose()}, {api.MaxWord, toTable()}} {
		lengths := map[int]int{}
		for _, b := range x.all {
			lengths[len(b.Word)]++
		}
		for length := range x.most + 1 {
			if lengths[length] < 50 {
				t.Error("too few of length", length, lengths)
			}
		}
	}
}
