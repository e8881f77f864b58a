package moves_test

import (
	"math"
	"testing"

	"knotwork/api"
	"knotwork/moves"
	"knotwork/samples"
)

// P5.1: curls that were found by hand.
func TestCurlByHand(t *testing.T) {
	trefoil := "X-[1,4,2,5] X-[3,6,4,1] X-[5,2,6,3]"
	for _, x := range []struct {
		what   string
		d      string
		at, by int
		want   string
	}{
		{"a loop, first below", "O", 0, 0, "X-[1,2,2,1]"},
		{"a loop, first below, Plus", "O", 0, 1, "X+[1,1,2,2]"},
		{"a loop, first above", "O", 0, 2, "X-[2,1,1,2]"},
		{"a loop, first above, Plus", "O", 0, 3, "X+[2,2,1,1]"},
		{"one of several loops", "X-[1,2,2,1] O O", 0, 3, "X-[1,2,2,1] X+[4,4,3,3] O"},
		{"an arc, first below", trefoil, 3, 0, "X-[1,4,2,5] X-[8,6,4,1] X-[5,2,6,3] X-[3,7,7,8]"},
		{"an arc, first below, Plus", trefoil, 3, 1, "X-[1,4,2,5] X-[8,6,4,1] X-[5,2,6,3] X+[3,8,7,7]"},
		{"an arc, first above", trefoil, 3, 2, "X-[1,4,2,5] X-[8,6,4,1] X-[5,2,6,3] X-[7,3,8,7]"},
		{"an arc, first above, Plus", trefoil, 3, 3, "X-[1,4,2,5] X-[8,6,4,1] X-[5,2,6,3] X+[7,7,8,3]"},
		{"the first arc", trefoil, 1, 0, "X-[8,4,2,5] X-[3,6,4,1] X-[5,2,6,3] X-[1,7,7,8]"},
		{"the last arc", trefoil, 6, 0, "X-[1,4,2,5] X-[3,8,4,1] X-[5,2,6,3] X-[6,7,7,8]"},
		{"an arc from a crossing to itself", "X-[1,2,2,1]", 2, 0, "X-[1,4,2,1] X-[2,3,3,4]"},
	} {
		if s := show(do(t, samples.OfText(x.d), curl(x.at, x.by))); s != x.want {
			t.Errorf("%s: %q; wanted: %q", x.what, s, x.want)
		}
	}
}

// P5.1, P5.2: each arc and a loop of many diagrams, in each way; Uncurl takes it away again, and what is left is what was there, number by number.
func TestCurl(t *testing.T) {
	count := map[api.Errno]int{}
	for _, d := range samples.FlatOnes() {
		n := len(d.Crosses)
		for at := 0; at <= 2*n; at++ {
			for by := range 4 {
				curled, e := asByWords(t, d, curl(at, by))
				if count[e]++; e != api.OK {
					continue
				}
				if got := do(t, curled, uncurl(n)); !samples.Alike(got, d) {
					t.Fatal(d, at, by, curled, "uncurled:", got)
				}
			}
		}
	}
	eachAnswer(t, count, 50, api.OK, api.ErrRange, api.ErrSize)
}

// numbersAround: numbers of which some are just at the ends of what there is from first to last.
func numbersAround(first, last int) []int {
	return []int{math.MinInt, -100, first - 2, first - 1, first, first + 1, last - 1, last, last + 1, last + 2, 100, math.MaxInt}
}

// P5.1: which arcs and ways there are: the first and the last, one more, 0 and below; with loops and without; ahead of too many crossings.
func TestCurlRefused(t *testing.T) {
	count := map[api.Errno]int{}
	for crosses := 0; crosses <= api.MaxCross; crosses++ {
		for _, loops := range []int{0, 1, api.MaxLoops} {
			if crosses+loops == 0 {
				continue
			}
			d := samples.Chain(crosses, true)
			d.Loops = loops
			for _, at := range numbersAround(1, 2*crosses) {
				for _, by := range numbersAround(0, 3) {
					_, e := asByWords(t, d, curl(at, by))
					count[e]++
				}
			}
		}
	}
	eachAnswer(t, count, 50, api.OK, api.ErrRange, api.ErrSize)
	for _, x := range []struct {
		what   string
		d      api.Diagram
		at, by int
		want   api.Errno
	}{
		{"no loop", samples.Trefoil(), 0, 0, api.ErrRange},
		{"below 0", samples.Trefoil(), -1, 0, api.ErrRange},
		{"the last arc", samples.Trefoil(), 6, 0, api.OK},
		{"one more", samples.Trefoil(), 7, 0, api.ErrRange},
		{"By below 0", samples.Trefoil(), 1, -1, api.ErrRange},
		{"By above 3", samples.Trefoil(), 1, 4, api.ErrRange},
		{"By above 3 at a loop", samples.With(1), 0, 4, api.ErrRange},
		{"arcs of loops", samples.With(3), 1, 0, api.ErrRange},
		{"one crossing fewer than may be", samples.Chain(15, true), 30, 3, api.OK},
		{"as many crossings as may be", samples.Chain(16, true), 1, 0, api.ErrSize},
		{"as many crossings as may be, and a loop", samples.Beside(samples.Chain(16, true), samples.With(1)), 0, 0, api.ErrSize},
		{"as many crossings as may be, and no such arc", samples.Chain(16, true), 33, 0, api.ErrRange},
		{"as many crossings as may be, and no such way", samples.Chain(16, true), 1, 4, api.ErrRange},
		{"as many crossings as may be, and no loop", samples.Chain(16, true), 0, 0, api.ErrRange},
	} {
		got, e := moves.Do(x.d, curl(x.at, x.by))
		if e != x.want || e != api.OK && !refused(got, e, x.want) {
			t.Error(x.what, got, e, "wanted:", x.want)
		}
	}
}

// P5.2: what was uncurled by hand.
func TestUncurlByHand(t *testing.T) {
	for _, x := range []struct {
		what string
		d    string
		at   int
		want string
	}{
		{"a ring of its own", "X-[1,2,2,1]", 0, "O"},
		{"a ring of its own, Plus", "X+[1,1,2,2]", 0, "O"},
		{"a ring of its own beside others", "X-[3,4,4,3] X+[1,1,2,2] O", 0, "X+[1,1,2,2] O O"},
		{"arcs that come behind have lower numbers", "X-[1,2,2,1] X+[3,3,4,4]", 0, "X+[1,1,2,2] O"},
		{"the strand goes on", "X-[1,4,2,1] X-[2,3,3,4]", 1, "X-[1,2,2,1]"},
		{"the same, at the other end", "X-[1,4,2,1] X-[2,3,3,4]", 0, "X-[1,2,2,1]"},
		{"the trefoil, its curl first", "X-[7,3,8,7] X-[1,4,2,5] X-[8,6,4,1] X-[5,2,6,3]", 0, "X-[1,4,2,5] X-[3,6,4,1] X-[5,2,6,3]"},
		{"the lowest of three numbers is left, be it the last one", "X-[2,6,3,7] X-[1,8,6,2] X-[7,3,8,4] X+[5,5,1,4]", 3, "X-[2,4,3,5] X-[1,6,4,2] X-[5,3,6,1]"},
	} {
		if s := show(do(t, samples.OfText(x.d), uncurl(x.at))); s != x.want {
			t.Errorf("%s: %q; wanted: %q", x.what, s, x.want)
		}
	}
}

// curledSomewhere: a drawn arc or a loop of a diagram is curled, if there is room for it.
func curledSomewhere(t *testing.T, die *samples.Die, d api.Diagram) api.Diagram {
	t.Helper()
	n := len(d.Crosses)
	if n == api.MaxCross {
		return d
	}
	at := die.Below(2*n + 1)
	if at == 0 && d.Loops == 0 {
		at = 1
	}
	return do(t, d, curl(at, die.Below(4)))
}

// P5.2: each crossing of many diagrams, whatever the numbers of their arcs.
func TestUncurl(t *testing.T) {
	die := samples.Die(21)
	count := map[api.Errno]int{}
	for _, d := range samples.FlatOnes() {
		for range 4 {
			for k := -1; k <= len(d.Crosses); k++ {
				_, e := asByWords(t, d, uncurl(k))
				count[e]++
			}
			d = samples.Renamed(&die, curledSomewhere(t, &die, d))
		}
	}
	eachAnswer(t, count, 50, api.OK, api.ErrRange, api.ErrNone)
}

// P5.2: which crossings there are: the first and the last, one more, and below 0; what has loops alone has none.
func TestUncurlRange(t *testing.T) {
	for crosses := 0; crosses <= api.MaxCross; crosses++ {
		d := samples.With(1)
		for range crosses {
			d = do(t, d, curl(len(d.Crosses), 0))
		}
		d.Loops = 1
		for _, at := range numbersAround(0, crosses-1) {
			_, e := asByWords(t, d, uncurl(at))
			if (e == api.ErrRange) != (at < 0 || at >= crosses) {
				t.Error(crosses, at, e)
			}
		}
	}
}

// P5.2: no more loops than may be: a ring of its own is refused where there are as many already, a curl of a longer strand is not. No such arc is ahead of that.
func TestUncurlSize(t *testing.T) {
	for _, x := range []struct {
		what  string
		d     string
		at    int
		loops int
		want  api.Errno
	}{
		{"a ring, one loop fewer than may be", "X-[1,2,2,1]", 0, 15, api.OK},
		{"a ring, as many loops as may be", "X-[1,2,2,1]", 0, 16, api.ErrSize},
		{"a ring beside others, as many loops as may be", "X-[1,2,2,1] X+[3,3,4,4]", 1, 16, api.ErrSize},
		{"a strand goes on, as many loops as may be", "X-[1,4,2,1] X-[2,3,3,4]", 0, 16, api.OK},
		{"no such arc, as many loops as may be", "X-[1,4,2,5] X-[3,6,4,1] X-[5,2,6,3]", 0, 16, api.ErrNone},
		{"no such crossing, as many loops as may be", "X-[1,2,2,1]", 1, 16, api.ErrRange},
	} {
		d := samples.OfText(x.d)
		d.Loops = x.loops
		if got, e := asByWords(t, d, uncurl(x.at)); e != x.want {
			t.Error(x.what, got, e, "wanted:", x.want)
		}
	}
}
