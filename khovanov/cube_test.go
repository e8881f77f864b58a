package khovanov

import (
	"maps"
	"testing"

	"knotwork/api"
	"knotwork/moved"
	"knotwork/samples"
	"knotwork/terms"
)

// of arcs their set.
func of(l ...int) arcs {
	var set arcs
	for _, arc := range l {
		set |= 1 << arc
	}
	return set
}

// madeOf a marked state, by d.
func madeOf(c cube, m marked) sum {
	s := sum{}
	c.tellMade(m, s.add)
	return s
}

// P15.1: what d makes, worked out by hand: in the first diagram one ring becomes two, in the second two become one; the third one has a curl more, which leaves a ring as it is.
func TestMadeByHand(t *testing.T) {
	one, two, curls := "X-[1,2,2,1]", "X+[1,1,2,2]", "X-[1,4,2,1] X-[2,3,3,4]"
	for _, x := range []struct {
		what, text string
		m          marked
		want       []marked
	}{
		{"one ring with +", one, marked{0, 0}, []marked{{1, of(1)}, {1, of(2)}}},
		{"one ring with -", one, marked{0, of(1, 2)}, []marked{{1, of(1, 2)}}},
		{"no crossing undone by A", one, marked{1, of(1)}, nil},
		{"+ and +", two, marked{0, 0}, []marked{{1, 0}}},
		{"- and +", two, marked{0, of(1)}, []marked{{1, of(1, 2)}}},
		{"+ and -", two, marked{0, of(2)}, []marked{{1, of(1, 2)}}},
		{"- and -", two, marked{0, of(1, 2)}, nil},
		{"both crossings undone by A, +", curls, marked{0, 0}, []marked{{1, of(1)}, {1, of(2, 3, 4)}, {2, of(3)}, {2, of(1, 2, 4)}}},
		{"both crossings undone by A, -", curls, marked{0, of(1, 2, 3, 4)}, []marked{{1, of(1, 2, 3, 4)}, {2, of(1, 2, 3, 4)}}},
		{"a ring with - stays", curls, marked{1, of(1)}, []marked{{3, of(1, 3)}, {3, of(1, 2, 4)}}},
		{"a ring with + stays", curls, marked{1, of(2, 3, 4)}, []marked{{3, of(2, 3, 4)}}},
	} {
		want := sum{}
		for _, m := range x.want {
			want.add(m)
		}
		if got := madeOf(cubeOf(samples.OfText(x.text)), x.m); !maps.Equal(got, want) {
			t.Error(x.what, got, "wanted:", want)
		}
	}
}

// P15.1: degrees, worked out by hand.
func TestDegreesByHand(t *testing.T) {
	for _, x := range []struct {
		text string
		m    marked
		want terms.Pair
	}{
		{"X-[1,2,2,1]", marked{0, 0}, terms.Pair{X: -1, Z: -1}},
		{"X-[1,2,2,1]", marked{0, of(1, 2)}, terms.Pair{X: -1, Z: -3}},
		{"X-[1,2,2,1]", marked{1, of(2)}, terms.Pair{X: 0, Z: -1}},
		{"X+[1,1,2,2]", marked{0, 0}, terms.Pair{X: 0, Z: 3}},
		{"X+[1,1,2,2]", marked{1, of(1, 2)}, terms.Pair{X: 1, Z: 1}},
		{"X-[1,4,2,5] X-[3,6,4,1] X-[5,2,6,3]", marked{7, 0}, terms.Pair{X: 0, Z: -1}},
		{"X-[1,4,2,5] X-[3,6,4,1] X-[5,2,6,3]", marked{0, 0}, terms.Pair{X: -3, Z: -3}},
	} {
		if got := cubeOf(samples.OfText(x.text)).degrees(x.m); got != x.want {
			t.Error(x.text, x.m, got, "wanted:", x.want)
		}
	}
}

// P15.1: d keeps the second degree, and adds 1 to the first; d of d is nothing. Each marked state is told once.
func TestTwice(t *testing.T) {
	asked := 0
	for _, d := range moved.UpTo(maxCross) {
		if len(d.Crosses) > maxCross || len(d.Crosses) == 0 || moved.Parts(d) > 3 {
			continue
		}
		asked++
		c := cubeOf(api.Diagram{Crosses: d.Crosses})
		seen := sum{}
		count := 0
		c.tellAll(func(m marked) {
			seen.add(m)
			count++
			want := c.degrees(m)
			want.X++
			twice := sum{}
			for one := range madeOf(c, m) {
				c.tellMade(one, twice.add)
				if got := c.degrees(one); got != want {
					t.Fatal(d, m, "makes", one, got, "wanted:", want)
				}
			}
			if len(twice) > 0 {
				t.Fatal(d, m, "makes", twice)
			}
		})
		states := 0
		for _, r := range c.states {
			states += 1 << len(r.each())
		}
		if len(seen) != count || count != states {
			t.Fatal(d, len(seen), count, states)
		}
	}
	if asked < 150 {
		t.Error("too few:", asked)
	}
}

// A sum that stands there as a sum of others is not taken in again; what stands in a sum twice is not there.
func TestBasis(t *testing.T) {
	ofStates := func(states ...int) sum {
		s := sum{}
		for _, state := range states {
			s.add(marked{state: state})
		}
		return s
	}
	b := basis{}
	for _, x := range []struct {
		s    sum
		want bool
	}{
		{ofStates(), false}, {ofStates(4, 4), false}, {ofStates(1, 2), true}, {ofStates(2, 1), false}, {ofStates(2, 3), true}, {ofStates(1, 3), false},
		{ofStates(1, 2, 3), true}, {ofStates(1), false}, {ofStates(3, 2, 1), false}, {ofStates(3, 4), true}, {ofStates(4, 1), false}, {ofStates(0), true},
	} {
		if got := b.grows(x.s); got != x.want {
			t.Error(x.s, got, "wanted:", x.want)
		}
	}
	if len(b) != 5 {
		t.Error(b)
	}
}
