package homfly_test

import (
	"slices"
	"testing"

	"knotwork/api"
	"knotwork/canon"
	"knotwork/code"
	"knotwork/homfly"
	"knotwork/moved"
	"knotwork/samples"
	"knotwork/wind"
)

// P11.1: crossings that were smoothed by hand.
func TestSmoothByHand(t *testing.T) {
	for _, x := range []struct {
		what, text string
		at         int
		want       string
	}{
		{"a curl", "X-[1,2,2,1]", 0, "O O"},
		{"a curl that is Plus", "X+[1,1,2,2]", 0, "O O"},
		{"a curl beside a loop", "X+[2,2,1,1] O", 0, "O O O"},
		{"a curl beside another one, which has lower numbers then", "X-[1,2,2,1] X+[3,3,4,4]", 0, "X+[1,1,2,2] O O"},
		{"one that was curled twice: at its end", "X-[1,4,2,1] X-[2,3,3,4]", 1, "X-[1,2,2,1] O"},
		{"one that was curled twice: at its beginning", "X-[1,4,2,1] X-[2,3,3,4]", 0, "X-[1,2,2,1] O"},
		{"the first of the trefoil", "X-[1,4,2,5] X-[3,6,4,1] X-[5,2,6,3]", 0, "X-[3,4,2,1] X-[1,2,4,3]"},
		{"the second of the trefoil", "X-[1,4,2,5] X-[3,6,4,1] X-[5,2,6,3]", 1, "X-[1,3,2,4] X-[4,2,3,1]"},
		{"the last of the trefoil", "X-[1,4,2,5] X-[3,6,4,1] X-[5,2,6,3]", 2, "X-[1,4,2,3] X-[3,2,4,1]"},
		{"two linked rings become one", "X+[4,2,1,3] X+[2,4,3,1]", 0, "X+[2,2,1,1]"},
		{"two linked rings, at the other one", "X+[4,2,1,3] X+[2,4,3,1]", 1, "X+[2,2,1,1]"},
		{"two rings, one upon the other", "X+[2,3,1,4] X-[1,3,2,4]", 0, "X-[1,2,2,1]"},
		{"the least number is left, be it the last one", "X-[2,6,3,7] X-[1,8,6,2] X-[7,3,8,4] X+[5,5,1,4]", 3, "X-[2,4,3,5] X-[1,6,4,2] X-[5,3,6,1] O"},
	} {
		if s, e := code.Show(smooth(t, samples.OfText(x.text), x.at)); e != api.OK || s != x.want {
			t.Errorf("%s: %q, %v; wanted: %q", x.what, s, e, x.want)
		}
	}
}

// byWords: the diagram without a crossing, as the chapters tell it: sets of arcs that are one; those of them that still stand somewhere are numbered by their least.
func byWords(d api.Diagram, cross int) api.Diagram {
	c := d.Crosses[cross]
	aboveIn, aboveOut := c.B, c.D
	if c.Plus {
		aboveIn, aboveOut = c.D, c.B
	}
	var sets [][]int
	for arc := 1; arc <= 2*len(d.Crosses); arc++ {
		sets = append(sets, []int{arc})
	}
	find := func(arc int) int {
		return slices.IndexFunc(sets, func(set []int) bool { return slices.Contains(set, arc) })
	}
	for _, one := range [][2]int{{c.A, aboveOut}, {aboveIn, c.C}} {
		i, j := find(one[0]), find(one[1])
		if i != j {
			sets[i] = append(sets[i], sets[j]...)
			sets = slices.Delete(sets, j, j+1)
		}
	}
	left := api.Diagram{Crosses: slices.Delete(slices.Clone(d.Crosses), cross, cross+1), Loops: d.Loops}
	ring := func(set []int) bool {
		return !slices.ContainsFunc(left.Crosses, func(c api.Cross) bool {
			return slices.ContainsFunc([]int{c.A, c.B, c.C, c.D}, func(arc int) bool { return slices.Contains(set, arc) })
		})
	}
	before := len(sets)
	sets = slices.DeleteFunc(sets, ring)
	left.Loops += before - len(sets)
	slices.SortFunc(sets, func(a, b []int) int { return slices.Min(a) - slices.Min(b) })
	for i, c := range left.Crosses {
		left.Crosses[i] = api.Cross{A: find(c.A) + 1, B: find(c.B) + 1, C: find(c.C) + 1, D: find(c.D) + 1, Plus: c.Plus}
	}
	return left
}

// P11.1: each crossing of many diagrams, number by number.
func TestSmooth(t *testing.T) {
	asked, more := map[bool]int{}, map[int]int{}
	for _, d := range smallOnes() {
		for k, c := range d.Crosses {
			want := byWords(d, k)
			got, e := homfly.Smooth(d, k)
			if want.Loops > api.MaxLoops {
				if len(got.Crosses) != 0 || got.Loops != 0 || e != api.ErrSize {
					t.Fatal(d, k, got, e)
				}
				continue
			}
			if e != api.OK || !planar(got) || !samples.Alike(got, want) {
				t.Fatal(d, k, got, e, "wanted:", want)
			}
			asked[c.Plus]++
			more[got.Loops-d.Loops]++
			if same, e := canon.Same(got, moved.Undone(d, k)); !same || e != api.OK {
				t.Fatal(d, k, got, "wanted:", moved.Undone(d, k))
			}
		}
	}
	if asked[true] < 500 || asked[false] < 500 || more[0] < 500 || more[1] < 100 || more[2] < 20 {
		t.Error("too few:", asked, more)
	}
}

// circles: how many there are, loops too.
func circles(t *testing.T, d api.Diagram) int {
	t.Helper()
	l, e := wind.Circles(d)
	if e != api.OK {
		t.Fatal(d, e)
	}
	return len(l) + d.Loops
}

// P11.1: a part becomes two, or two become one; the circles of chapter 6 are as many as before.
func TestSmoothParts(t *testing.T) {
	parts := map[int]int{}
	for _, d := range smallOnes() {
		if d.Loops > api.MaxLoops-2 {
			continue
		}
		for k := range d.Crosses {
			got := smooth(t, d, k)
			by := moved.Parts(got) - moved.Parts(d)
			parts[by]++
			if circles(t, got) != circles(t, d) || by != 1 && by != -1 {
				t.Fatal(d, k, got)
			}
		}
	}
	if parts[1] < 200 || parts[-1] < 200 {
		t.Error("too few:", parts)
	}
}

// P11.1: no more loops than may be; a crossing that is not there, and too many crossings, are told of as ever.
func TestSmoothLoops(t *testing.T) {
	for _, x := range []struct {
		what, text string
		at, loops  int
		want       api.Errno
	}{
		{"two rings, two loops fewer than may be", "X-[1,2,2,1]", 0, 14, api.OK},
		{"two rings, one loop fewer than may be", "X-[1,2,2,1]", 0, 15, api.ErrSize},
		{"two rings, as many loops as may be", "X+[1,1,2,2]", 0, 16, api.ErrSize},
		{"two rings beside others, one loop fewer than may be", "X-[1,2,2,1] X+[3,3,4,4]", 1, 15, api.ErrSize},
		{"a ring, one loop fewer than may be", "X-[1,4,2,1] X-[2,3,3,4]", 0, 15, api.OK},
		{"a ring, as many loops as may be", "X-[1,4,2,1] X-[2,3,3,4]", 0, 16, api.ErrSize},
		{"no ring, as many loops as may be", "X-[1,4,2,5] X-[3,6,4,1] X-[5,2,6,3]", 0, 16, api.OK},
		{"no such crossing, as many loops as may be", "X-[1,2,2,1]", 1, 16, api.ErrRange},
	} {
		d := samples.OfText(x.text)
		d.Loops = x.loops
		got, e := homfly.Smooth(d, x.at)
		if e != x.want || e != api.OK && (len(got.Crosses) != 0 || got.Loops != 0) || e == api.OK && !samples.Alike(got, byWords(d, x.at)) {
			t.Error(x.what, got, e, "wanted:", x.want)
		}
	}
}
