package moves_test

import (
	"testing"

	"knotwork/api"
	"knotwork/samples"
)

// P5.4: pulls that were found by hand; it is one which crossing is told first.
func TestPullByHand(t *testing.T) {
	for _, x := range []struct {
		what   string
		d      string
		at, by int
		want   string
	}{
		{"two rings", "X-[1,3,2,4] X+[2,3,1,4]", 0, 1, "O O"},
		{"a ring folded over itself", "X+[4,2,1,1] X-[3,2,4,3]", 0, 1, "O"},
		{"a ring above a curled one", "X+[5,2,1,3] X-[1,2,4,3] X+[6,6,5,4]", 0, 1, "X+[2,2,1,1] O"},
		{"a ring below a trefoil", "X+[10,2,1,9] X+[6,4,3,2] X-[3,4,6,5] X+[5,8,7,1] X+[8,10,9,7]", 1, 2, "X+[6,2,1,5] X+[2,4,3,1] X+[4,6,5,3] O"},
		{"two strands of one part", "X-[6,4,2,1] X-[1,2,5,3] X+[5,4,6,3]", 1, 2, "X-[1,2,2,1]"},
		{"first and last crossing", "X-[1,2,5,3] X-[6,4,2,1] X+[5,4,6,3]", 0, 2, "X-[1,2,2,1]"},
	} {
		d := samples.OfText(x.d)
		if s, again := show(do(t, d, pull(x.at, x.by))), show(do(t, d, pull(x.by, x.at))); s != x.want || again != x.want {
			t.Errorf("%s: %q, %q; wanted: %q", x.what, s, again, x.want)
		}
	}
}

// P5.4: each pair of crossings of many diagrams, whatever the numbers of their arcs; one more, and below 0.
func TestPull(t *testing.T) {
	die := samples.Die(22)
	count := map[api.Errno]int{}
	for _, d := range samples.FlatOnes() {
		n := len(d.Crosses)
		if n > 10 {
			continue
		}
		for range 2 {
			for k := -1; k <= n; k++ {
				for j := -1; j <= n; j++ {
					_, e := asByWords(t, d, pull(k, j))
					count[e]++
				}
			}
			d = samples.Renamed(&die, d)
		}
	}
	eachAnswer(t, count, 50, api.OK, api.ErrRange, api.ErrNone)
}

// P5.4: which crossings there are: the first and the last, one more, and below 0; what has loops alone has none.
func TestPullRange(t *testing.T) {
	for crosses := 0; crosses <= api.MaxCross; crosses += 2 {
		var word []int
		for range crosses / 2 {
			word = append(word, 1, -1)
		}
		d := samples.Weave(2, word)
		for _, at := range numbersAround(0, crosses-1) {
			for _, by := range numbersAround(0, crosses-1) {
				_, e := asByWords(t, d, pull(at, by))
				wrong := min(at, by) < 0 || max(at, by) >= crosses || at == by
				if (e == api.ErrRange) != wrong {
					t.Error(d, at, by, e)
				}
			}
		}
	}
}

// P5.4: which faces are so: not one whose arcs change from above to below, nor one of another pair.
func TestPullNone(t *testing.T) {
	for _, x := range []struct {
		what   string
		word   []int
		at, by int
		want   api.Errno
	}{
		{"above, then below", []int{1, 1, 1}, 0, 1, api.ErrNone},
		{"above twice", []int{1, -1, 1}, 0, 1, api.OK},
		{"around the back", []int{1, 1, -1}, 2, 0, api.OK},
		{"a face of three darts", []int{1, 2, 1, 2, -1, 2}, 2, 4, api.ErrNone},
		{"two darts of another pair", []int{1, -1, 1, 1}, 2, 3, api.ErrNone},
		{"one crossing of a pair, and another one", []int{1, -1, 1, 1, 1}, 1, 3, api.ErrNone},
		{"two pieces", []int{1, 3}, 0, 1, api.ErrNone},
	} {
		if got, e := asByWords(t, samples.Weave(4, x.word), pull(x.at, x.by)); e != x.want {
			t.Error(x.what, got, e, "wanted:", x.want)
		}
	}
}

// P5.4: no more loops than may be, whether Pull makes none, one or two; what is no such face, or no such crossing, is ahead of that.
func TestPullSize(t *testing.T) {
	for _, x := range []struct {
		what   string
		d      string
		at, by int
		more   int
		why    api.Errno
	}{
		{"two rings", "X-[1,3,2,4] X+[2,3,1,4]", 0, 1, 2, api.OK},
		{"a ring folded over itself", "X+[4,2,1,1] X-[3,2,4,3]", 0, 1, 1, api.OK},
		{"a ring above a curled one", "X+[5,2,1,3] X-[1,2,4,3] X+[6,6,5,4]", 0, 1, 1, api.OK},
		{"two strands of one part", "X-[6,4,2,1] X-[1,2,5,3] X+[5,4,6,3]", 1, 2, 0, api.OK},
		{"no such face", "X-[1,3,2,4] X-[4,2,3,1]", 0, 1, 2, api.ErrNone},
		{"no such crossing", "X-[1,3,2,4] X+[2,3,1,4]", 0, 2, 2, api.ErrRange},
		{"one crossing", "X-[1,3,2,4] X+[2,3,1,4]", 1, 1, 2, api.ErrRange},
	} {
		for loops := 12; loops <= api.MaxLoops; loops++ {
			d := samples.OfText(x.d)
			d.Loops = loops
			want := x.why
			if want == api.OK && loops+x.more > api.MaxLoops {
				want = api.ErrSize
			}
			if got, e := asByWords(t, d, pull(x.at, x.by)); e != want || e == api.OK && got.Loops != loops+x.more {
				t.Error(x.what, loops, got, e, "wanted:", want)
			}
		}
	}
}
