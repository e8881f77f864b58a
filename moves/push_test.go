package moves_test

import (
	"iter"
	"testing"

	"knotwork/api"
	"knotwork/samples"
)

// along, back: darts of an arc.
func along(arc int) api.Dart { return api.Dart{Arc: arc} }
func back(arc int) api.Dart  { return api.Dart{Arc: arc, Back: true} }

// P5.3: pushes that were drawn by hand, with the compass of which the promise tells.
func TestPushByHand(t *testing.T) {
	curled, rings := "X-[1,2,2,1]", "X-[1,3,2,4] X-[4,2,3,1]"
	for _, x := range []struct {
		what string
		d    string
		u, v api.Dart
		over bool
		want string
	}{
		{"along over back", curled, along(2), back(1), true, "X-[6,4,2,1] X-[1,2,5,3] X+[5,4,6,3]"},
		{"along below back", curled, along(2), back(1), false, "X-[6,4,2,1] X+[2,5,3,1] X-[3,5,4,6]"},
		{"back over along", curled, back(1), along(2), true, "X-[4,6,2,1] X-[5,3,6,4] X+[2,3,5,1]"},
		{"back below along", curled, back(1), along(2), false, "X-[4,6,2,1] X+[3,6,4,5] X-[1,2,3,5]"},
		{"along over along", rings, along(1), along(4), true, "X-[6,3,2,4] X-[8,2,3,1] X+[7,5,8,1] X-[4,5,7,6]"},
		{"along below along", rings, along(1), along(4), false, "X-[6,3,2,4] X-[8,2,3,1] X-[1,7,5,8] X+[5,7,6,4]"},
		{"back over back", rings, back(2), back(3), true, "X-[1,8,2,4] X-[4,6,3,1] X+[3,6,7,5] X-[7,2,8,5]"},
		{"back below back", rings, back(2), back(3), false, "X-[1,8,2,4] X-[4,6,3,1] X-[5,3,6,7] X+[2,8,5,7]"},
	} {
		if s := show(do(t, samples.OfText(x.d), push(x.u, x.v, x.over))); s != x.want {
			t.Errorf("%s: %q; wanted: %q", x.what, s, x.want)
		}
	}
}

// pushes of each pair of darts of a face.
func pushes(ring []api.Dart) iter.Seq[api.Move] {
	return func(yield func(api.Move) bool) {
		for _, u := range ring {
			for _, v := range ring {
				if !yield(push(u, v, true)) || !yield(push(u, v, false)) {
					return
				}
			}
		}
	}
}

// P5.3, P5.4: each pair of darts of each face of many diagrams, over and below; Pull takes it back, whichever crossing it is told first, and what is left is what was there, number by number.
func TestPush(t *testing.T) {
	count, ways := map[api.Errno]int{}, map[[2]bool]int{}
	for i, d := range samples.FlatOnes() {
		n := len(d.Crosses)
		if n > 6 && n < 14 && i%5 > 0 {
			continue
		}
		for _, ring := range facesOf(d) {
			for m := range pushes(ring) {
				pushed, e := asByWords(t, d, m)
				if count[e]++; e != api.OK {
					continue
				}
				ways[[2]bool{m.U.Back, m.V.Back}]++
				if there, again := do(t, pushed, pull(n, n+1)), do(t, pushed, pull(n+1, n)); !samples.Alike(there, d) || !samples.Alike(again, d) {
					t.Fatal(d, m, pushed, "pulled:", there, again)
				}
			}
		}
	}
	eachAnswer(t, count, 50, api.OK, api.ErrNone, api.ErrSize)
	if len(ways) != 4 {
		t.Error("not each way of both arcs:", ways)
	}
}

// P5.3: each pair of darts of small diagrams, be they of one face or not, or of one arc; and arcs that there are not: 0, one more, below.
func TestPushRefused(t *testing.T) {
	count := map[api.Errno]int{}
	for _, d := range samples.FlatOnes() {
		n := len(d.Crosses)
		if n > 3 {
			continue
		}
		for u := -1; u <= 2*n+1; u++ {
			for v := -1; v <= 2*n+1; v++ {
				for way := range 8 {
					m := push(api.Dart{Arc: u, Back: way&1 > 0}, api.Dart{Arc: v, Back: way&2 > 0}, way&4 > 0)
					_, e := asByWords(t, d, m)
					count[e]++
				}
			}
		}
	}
	eachAnswer(t, count, 500, api.OK, api.ErrRange, api.ErrNone)
}

// P5.3: what is refused first: no arc, then no face, then too many crossings.
func TestPushOrder(t *testing.T) {
	for crosses := 13; crosses <= api.MaxCross; crosses++ {
		size := api.OK
		if crosses > 14 {
			size = api.ErrSize
		}
		d := samples.Chain(crosses, true)
		ring := facesOf(d)[0]
		u, v := ring[0], ring[1]
		other := facesOf(d)[1][0]
		for _, x := range []struct {
			what string
			u, v api.Dart
			want api.Errno
		}{
			{"two darts of a face", u, v, size},
			{"one dart", u, u, api.ErrNone},
			{"one arc", u, api.Dart{Arc: u.Arc, Back: !u.Back}, api.ErrNone},
			{"of one face the other way round", u, api.Dart{Arc: v.Arc, Back: !v.Back}, api.ErrNone},
			{"of two faces", u, other, api.ErrNone},
		} {
			if got, e := asByWords(t, d, push(x.u, x.v, true)); e != x.want {
				t.Error(crosses, x.what, got, e, "wanted:", x.want)
			}
		}
		for _, arc := range numbersAround(1, 2*crosses) {
			for _, m := range []api.Move{push(along(arc), u, true), push(u, back(arc), false), push(along(arc), along(arc), true)} {
				_, e := asByWords(t, d, m)
				if (e == api.ErrRange) != (arc < 1 || arc > 2*crosses) {
					t.Error(crosses, m, e)
				}
			}
		}
	}
}

// P5.3: loops have no darts, and faces of two pieces are not one.
func TestPushPieces(t *testing.T) {
	for _, x := range []struct {
		d    string
		want api.Errno
	}{
		{"O O", api.ErrRange},
		{"X-[1,2,2,1] X-[3,4,4,3]", api.ErrNone},
	} {
		for u := 1; u < 3; u++ {
			for v := 3; v < 5; v++ {
				for way := range 4 {
					m := push(api.Dart{Arc: u, Back: way&1 > 0}, api.Dart{Arc: v, Back: way&2 > 0}, true)
					if got, e := asByWords(t, samples.OfText(x.d), m); e != x.want {
						t.Error(x.d, m, got, e, "wanted:", x.want)
					}
				}
			}
		}
	}
}
