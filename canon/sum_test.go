package canon_test

import (
	"math"
	"slices"
	"testing"

	"knotwork/api"
	"knotwork/canon"
	"knotwork/code"
	"knotwork/samples"
)

// sum of two diagrams that have one.
func sum(t *testing.T, a api.Diagram, x int, b api.Diagram, y int) api.Diagram {
	t.Helper()
	d, e := canon.Sum(a, x, b, y)
	if e != api.OK || !code.May(d) {
		t.Fatal(a, x, b, y, d, e)
	}
	return d
}

// P4.4: sums that were found by hand.
func TestSumByHand(t *testing.T) {
	for _, x := range []struct {
		what string
		a    string
		x    int
		b    string
		y    int
		want string
	}{
		{"two curls", "X-[1,2,2,1]", 1, "X+[1,1,2,2]", 2, "X-[4,2,2,1] X+[3,3,4,1]"},
		{"two curls, along the other arcs", "X-[1,2,2,1]", 2, "X+[1,1,2,2]", 1, "X-[1,3,2,1] X+[2,3,4,4]"},
		{"rings that cross once, and a curl", "X-[1,2,1,2]", 1, "X-[1,2,2,1]", 1, "X-[3,2,1,2] X-[1,4,4,3]"},
		{"two trefoils", "X-[1,4,2,5] X-[3,6,4,1] X-[5,2,6,3]", 1, "X-[1,4,2,5] X-[3,6,4,1] X-[5,2,6,3]", 6, "X-[12,4,2,5] X-[3,6,4,1] X-[5,2,6,3] X-[7,10,8,11] X-[9,1,10,7] X-[11,8,12,9]"},
		{"with loops", "X+[1,1,2,2] O O", 1, "O X+[1,1,2,2]", 1, "X+[3,1,2,2] X+[1,3,4,4] O O O"},
		{"several pieces", "X+[1,1,2,2] X-[3,4,4,3]", 4, "X-[1,2,2,1] X+[3,3,4,4]", 3, "X+[1,1,2,2] X-[3,7,4,3] X-[5,6,6,5] X+[4,7,8,8]"},
	} {
		if s, e := code.Show(sum(t, samples.OfText(x.a), x.x, samples.OfText(x.b), x.y)); e != api.OK || s != x.want {
			t.Errorf("%s: %q, %v; wanted: %q", x.what, s, e, x.want)
		}
	}
}

// inPlaces: at which places of a crossing strands come in.
func inPlaces(c api.Cross) []int {
	if c.Plus {
		return []int{0, 3}
	}
	return []int{0, 1}
}

// sumByWords: as P4.4 says: both beside one another, and where the cut arcs come in the numbers change places.
func sumByWords(a api.Diagram, x int, b api.Diagram, y int) api.Diagram {
	d := samples.Beside(a, b)
	y += 2 * len(a.Crosses)
	for k, c := range d.Crosses {
		l := places(c)
		for _, i := range inPlaces(c) {
			switch l[i] {
			case x:
				l[i] = y
			case y:
				l[i] = x
			}
		}
		d.Crosses[k] = crossOf(l, c.Plus)
	}
	return d
}

// P4.4: of drawn ones, along any arcs. Both parts become one; the sum lies on a sphere just if both do; and it is the same link in the other order.
func TestSum(t *testing.T) {
	die := samples.Die(12)
	count := map[bool]int{}
	ones := samples.DrawnOnes()
	for i := range 3000 {
		a, b := ones[die.Below(len(ones))], ones[die.Below(len(ones))]
		if i%4 == 0 {
			a, b = samples.Woven(&die, 8), samples.Woven(&die, 8)
		}
		if len(a.Crosses)+len(b.Crosses) > api.MaxCross {
			continue
		}
		x, y := 1+die.Below(2*len(a.Crosses)), 1+die.Below(2*len(b.Crosses))
		got := sum(t, a, x, b, y)
		if want := sumByWords(a, x, b, y); !samples.Alike(got, want) {
			t.Fatal(a, x, b, y, got, "wanted:", want)
		}
		if len(strands(t, got)) != len(strands(t, a))+len(strands(t, b))-1 || got.Loops != a.Loops+b.Loops {
			t.Fatal(a, x, b, y, got)
		}
		flat := planar(t, a) && planar(t, b)
		if planar(t, got) != flat || !same(t, got, sum(t, b, y, a, x)) {
			t.Fatal(a, x, b, y, got)
		}
		count[flat]++
	}
	if count[true] < 200 || count[false] < 200 {
		t.Error("too few of one kind:", count)
	}
}

// behind an arc of a ring: all of it, that arc last.
func behind(ring []int, arc int) []int {
	i := slices.Index(ring, arc)
	return slices.Concat(ring[i+1:], ring[:i+1])
}

// P4.4: each arc of each summand: the one part runs through a up to x, and then through b up to y.
func TestSumAlongEachArc(t *testing.T) {
	a, b := samples.Trefoil(), samples.Chain(5, true)
	ofA, ofB := strands(t, a)[0], strands(t, b)[0]
	for x := 1; x <= 6; x++ {
		for y := 1; y <= 10; y++ {
			want := behind(ofA, x)
			for _, arc := range behind(ofB, y) {
				want = append(want, arc+6)
			}
			if got := strands(t, sum(t, a, x, b, y)); len(got) != 1 || !round(got[0], want) {
				t.Error(x, y, got, "wanted, from some arc on:", want)
			}
		}
	}
}

// P4.4: as many crossings and loops as may be together, and one more.
func TestSumSize(t *testing.T) {
	for _, x := range []struct{ crosses, more, loops, moreLoops int }{
		{1, 1, 0, 0}, {1, 15, 0, 0}, {15, 1, 0, 0}, {8, 8, 0, 0}, {8, 8, 8, 8}, {2, 2, 16, 0}, {2, 2, 0, 16}, {3, 13, 15, 1},
		{16, 1, 0, 0}, {1, 16, 0, 0}, {9, 8, 0, 0}, {16, 16, 0, 0}, {2, 2, 16, 1}, {2, 2, 1, 16}, {2, 2, 9, 8}, {2, 2, 16, 16}, {16, 1, 16, 1},
	} {
		a, b := samples.Chain(x.crosses, true), samples.Chain(x.more, false)
		a.Loops, b.Loops = x.loops, x.moreLoops
		crosses, loops := x.crosses+x.more, x.loops+x.moreLoops
		d, e := canon.Sum(a, 2*x.crosses, b, 1)
		if crosses > api.MaxCross || loops > api.MaxLoops {
			if !refused(d, e, api.ErrSize) {
				t.Error(x, d, e)
			}
		} else if e != api.OK || len(d.Crosses) != crosses || d.Loops != loops {
			t.Error(x, d, e)
		}
	}
}

// P4.4: which arcs there are: the first and the last one of each summand, one more, 0 and below; what has loops alone has none. This comes ahead of ErrSize.
func TestSumRange(t *testing.T) {
	great := samples.Chain(api.MaxCross, true)
	great.Loops = api.MaxLoops
	ones := []api.Diagram{samples.With(1), samples.With(api.MaxLoops), samples.OfText("X-[1,2,2,1] O"), samples.Trefoil(), samples.Chain(8, true), great}
	for _, a := range ones {
		for _, b := range ones {
			n, m := 2*len(a.Crosses), 2*len(b.Crosses)
			for _, x := range []int{math.MinInt, -n, -1, 0, 1, n, n + 1, n + m, math.MaxInt} {
				for _, y := range []int{math.MinInt, -m, -1, 0, 1, m, m + 1, n + m, math.MaxInt} {
					want := api.OK
					if x < 1 || x > n || y < 1 || y > m {
						want = api.ErrRange
					} else if n+m > 2*api.MaxCross || a.Loops+b.Loops > api.MaxLoops {
						want = api.ErrSize
					}
					d, e := canon.Sum(a, x, b, y)
					if want == api.OK && (e != want || !samples.Alike(d, sumByWords(a, x, b, y))) || want != api.OK && !refused(d, e, want) {
						t.Error(a, x, b, y, d, e, "wanted:", want)
					}
				}
			}
		}
	}
}

// P4.4: what may not be is refused ahead of all else, be it the first one, the second one or both.
func TestSumState(t *testing.T) {
	great := samples.Chain(api.MaxCross, true)
	great.Loops = api.MaxLoops
	for _, w := range samples.WrongOnes() {
		for _, right := range []api.Diagram{samples.Trefoil(), samples.With(1), great} {
			for _, x := range []int{-1, 0, 1, 99} {
				for _, y := range []int{-1, 0, 1, 99} {
					if d, e := canon.Sum(w.Diagram, x, right, y); !refused(d, e, api.ErrState) {
						t.Error(w.What, x, y, d, e)
					}
					if d, e := canon.Sum(right, x, w.Diagram, y); !refused(d, e, api.ErrState) {
						t.Error(w.What, "second", x, y, d, e)
					}
				}
			}
		}
		for _, other := range samples.WrongOnes() {
			if d, e := canon.Sum(w.Diagram, 1, other.Diagram, 1); !refused(d, e, api.ErrState) {
				t.Error(w.What, other.What, d, e)
			}
		}
	}
}
