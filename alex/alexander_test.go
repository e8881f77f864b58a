package alex_test

import (
	"slices"
	"testing"

	"knotwork/api"
	"knotwork/canon"
	"knotwork/moved"
	"knotwork/poly"
	"knotwork/samples"
)

// chain: two strands wound around one another so many times; a word of Weave's.
func chain(n int) []int { return slices.Repeat([]int{1}, n) }

// P8.2, P8.3: knots and links whose polynomials are known.
func TestKnown(t *testing.T) {
	for _, x := range []struct {
		what    string
		strands int
		word    []int
		want    string
		det     int
	}{
		{"the trefoil", 2, chain(3), "1 - t + t^2", 3},
		{"the figure of eight", 3, []int{1, -2, 1, -2}, "1 - 3*t + t^2", 5},
		{"five crossings, the first", 2, chain(5), "1 - t + t^2 - t^3 + t^4", 5},
		{"five crossings, the second", 3, []int{1, 1, 1, 2, -1, 2}, "2 - 3*t + 2*t^2", 7},
		{"six crossings, the first", 4, []int{1, 1, 2, -1, -3, 2, -3}, "2 - 5*t + 2*t^2", 9},
		{"six crossings, the second", 3, []int{-1, -1, -1, 2, -1, 2}, "1 - 3*t + 3*t^2 - 3*t^3 + t^4", 11},
		{"six crossings, the third", 3, []int{-1, -1, 2, -1, 2, 2}, "1 - 3*t + 5*t^2 - 3*t^3 + t^4", 13},
		{"eight crossings, the 18th", 3, []int{1, -2, 1, -2, 1, -2, 1, -2}, "1 - 5*t + 10*t^2 - 13*t^3 + 10*t^4 - 5*t^5 + t^6", 45},
		{"eight crossings, the 19th", 3, []int{1, 1, 1, 2, 1, 1, 1, 2}, "1 - t + t^3 - t^5 + t^6", 3},
		{"eight crossings, the 20th", 3, []int{1, 1, 1, -2, -1, -1, -1, -2}, "1 - 2*t + 3*t^2 - 2*t^3 + t^4", 9},
		{"eight crossings, the 21st", 3, []int{1, 1, 1, 2, -1, -1, 2, 2}, "1 - 4*t + 5*t^2 - 4*t^3 + t^4", 15},
		{"nine crossings, the first", 2, chain(9), "1 - t + t^2 - t^3 + t^4 - t^5 + t^6 - t^7 + t^8", 9},
		{"ten crossings, the 123rd", 3, []int{1, -2, 1, -2, 1, -2, 1, -2, 1, -2}, "1 - 6*t + 15*t^2 - 24*t^3 + 29*t^4 - 24*t^5 + 15*t^6 - 6*t^7 + t^8", 121},
		{"ten crossings, the 124th", 3, []int{1, 1, 1, 1, 1, 2, 1, 1, 1, 2}, "1 - t + t^3 - t^4 + t^5 - t^7 + t^8", 1},
		{"ten crossings, the 161st", 3, []int{1, 1, 1, 2, -1, 2, 1, 1, 2, 2}, "1 - 2*t^2 + 3*t^3 - 2*t^4 + t^6", 5},
		{"no knot, of ten crossings", 3, []int{1, 2, 1, 2, 1, -2, -1, -2, -1, 2}, "1", 1},
		{"two rings, linked", 2, chain(2), "1 - t", 2},
		{"two rings, linked twice", 2, chain(4), "1 - t + t^2 - t^3", 4},
		{"two rings, linked five times", 2, chain(10), "1 - t + t^2 - t^3 + t^4 - t^5 + t^6 - t^7 + t^8 - t^9", 10},
		{"three rings in a row", 3, []int{1, 1, 2, 2}, "1 - 2*t + t^2", 4},
		{"Whitehead's link", 3, []int{1, -2, 1, -2, -2}, "1 - 3*t + 3*t^2 - t^3", 8},
		{"Borromeo's rings", 3, []int{1, -2, 1, -2, 1, -2}, "1 - 4*t + 6*t^2 - 4*t^3 + t^4", 16},
		{"two rings that part", 2, []int{1, -1}, "0", 0},
		{"a ring of two curls", 3, []int{1, -2}, "1", 1},
		{"a ring of one curl", 2, []int{1}, "1", 1},
		{"a ring of one curl, the other way", 2, []int{-1}, "1", 1},
		{"a trefoil and a loop", 3, chain(3), "0", 0},
		{"a trefoil and two loops", 4, chain(3), "0", 0},
		{"a ring with a curl and a loop", 3, chain(1), "0", 0},
		{"two trefoils apart", 4, []int{1, 1, 1, 3, 3, 3}, "0", 0},
	} {
		d := samples.Weave(x.strands, x.word)
		for _, one := range []api.Diagram{d, moved.Mirrored(d)} {
			if got := alexander(t, one); !slices.Equal(got, read(t, x.want)) {
				t.Error(x.what, got, "wanted:", x.want)
			}
			if got := determinant(t, one); got != x.det {
				t.Error(x.what, got, "wanted:", x.det)
			}
		}
	}
}

// P8.2, P8.3: diagrams without crossings; and what loops make of others.
func TestLoops(t *testing.T) {
	for loops := 1; loops <= api.MaxLoops; loops++ {
		want := 0
		if loops == 1 {
			want = 1
		}
		a, n := alexander(t, samples.With(loops)), determinant(t, samples.With(loops))
		if n != want || len(a) != want || want == 1 && a[0] != (api.Term{Coef: 1}) {
			t.Error(loops, a, n)
		}
		for _, d := range []api.Diagram{samples.Trefoil(), samples.OfText("X-[1,2,2,1]"), samples.Chain(most, false)} {
			d.Loops = loops
			if a, n := alexander(t, d), determinant(t, d); len(a) != 0 || n != 0 {
				t.Error(d, a, n)
			}
		}
	}
}

// P8.2: two strands that are wound around one another, both with the other or one against the other.
func TestChains(t *testing.T) {
	for n := 1; n <= most; n++ {
		d := samples.Chain(n, n%2 == 0)
		var want []api.Term
		for exp := range n {
			want = append(want, api.Term{Exp: exp, Coef: 1 - 2*(exp%2)})
		}
		if got := alexander(t, d); !slices.Equal(got, want) || determinant(t, d) != n {
			t.Error(n, got, determinant(t, d))
		}
		if n%2 == 1 {
			continue
		}
		against, e := canon.Reverse(d, 1)
		want = []api.Term{{Exp: 0, Coef: n / 2}, {Exp: 1, Coef: -n / 2}}
		if got := alexander(t, against); e != api.OK || !slices.Equal(got, want) || determinant(t, against) != n {
			t.Error(n, "against one another", got, determinant(t, against))
		}
	}
}

// P8.2: more overpasses than crossings: a ring lies upon all others, so it can be taken away from them.
func TestRingsUpon(t *testing.T) {
	for rings := 1; rings <= most/2; rings++ {
		d := moved.RingsUpon(rings)
		if _, count := overs(t, d); count != len(d.Crosses)+rings {
			t.Fatal(d, count)
		}
		if a, n := alexander(t, d), determinant(t, d); len(a) != 0 || n != 0 {
			t.Error(rings, a, n)
		}
	}
	more := map[int]int{}
	for _, d := range smallOnes() {
		_, count := overs(t, d)
		if count <= len(d.Crosses) || len(d.Crosses) == 0 {
			continue
		}
		more[count-len(d.Crosses)]++
		if a, n := alexander(t, d), determinant(t, d); len(a) != 0 || n != 0 {
			t.Fatal(d, a, n)
		}
	}
	if more[1] < 20 || more[2] < 8 {
		t.Error("too few:", more)
	}
}

// P8.2: by the chapter's words, with chapter 1's determinants, where it takes them.
func TestAlexander(t *testing.T) {
	asked := [api.MaxSide + 1]int{}
	for _, d := range smallOnes() {
		m := tableOf(t, d)
		_, count := overs(t, d)
		if len(m) == 0 || d.Loops > 0 || count > len(m)+1 || count-1 > api.MaxSide {
			continue
		}
		if count == len(m) {
			m = m[:len(m)-1]
		}
		for k := range m {
			m[k] = m[k][:len(m[k])-1]
		}
		det, e := poly.Det(m)
		if e != api.OK {
			t.Fatal(d, e)
		}
		asked[len(m)]++
		if got := alexander(t, d); !slices.Equal(got, unit(t, det)) {
			t.Fatal(d, got, "wanted:", det)
		}
	}
	for side, times := range asked {
		if times < 5 {
			t.Error("too few of side", side, times)
		}
	}
}

// P8.2: of all sizes, where t is 2, 3 or -2: the table's numbers are brought to steps. But for its sign and a power of t it is the value.
func TestValues(t *testing.T) {
	asked := [most + 1]int{}
	for _, d := range smallOnes() {
		m := tableOf(t, d)
		_, count := overs(t, d)
		if d.Loops > 0 || count != len(m) {
			continue
		}
		asked[len(m)]++
		a := alexander(t, d)
		for _, x := range []int{2, 3, -2} {
			numbers := make([][]int, len(m)-1)
			for i := range numbers {
				for _, place := range m[i][:count-1] {
					numbers[i] = append(numbers[i], valueAt(place, x))
				}
			}
			want, got := without(stepped(numbers), x), without(valueAt(a, x), x)
			if want != got {
				t.Fatal(d, a, "at", x, got, "wanted:", want)
			}
		}
	}
	for side := 1; side <= most; side++ {
		if asked[side] < 5 {
			t.Error("too few of", side, "crossings:", asked)
		}
	}
}

// without: the size of n, parted by x as often as it can be.
func without(n, x int) int {
	for n != 0 && n%x == 0 {
		n /= x
	}
	return max(n, -n)
}

// stepped: the determinant of a table of numbers, each row freed of what stands ahead of its step; all divisions come out even.
func stepped(m [][]int) int {
	sign, last := 1, 1
	for k := range m {
		at := slices.IndexFunc(m[k:], func(row []int) bool { return row[k] != 0 })
		if at < 0 {
			return 0
		}
		if at > 0 {
			m[k], m[k+at], sign = m[k+at], m[k], -sign
		}
		for i := k + 1; i < len(m); i++ {
			for j := k + 1; j < len(m); j++ {
				m[i][j] = (m[i][j]*m[k][k] - m[i][k]*m[k][j]) / last
			}
		}
		last = m[k][k]
	}
	return sign * last
}
