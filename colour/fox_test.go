package colour_test

import (
	"math"
	"testing"

	"knotwork/api"
	"knotwork/canon"
	"knotwork/colour"
	"knotwork/moved"
	"knotwork/poly"
	"knotwork/samples"
)

// P7.2: knots and links whose colourings are known.
func TestFoxByHand(t *testing.T) {
	eight := samples.Weave(3, []int{1, -2, 1, -2})
	whitehead := samples.Weave(3, []int{1, -2, 1, -2, -2})
	borromeo := samples.Weave(3, []int{1, -2, 1, -2, 1, -2})
	granny, _ := canon.Sum(samples.Trefoil(), 1, samples.Trefoil(), 1)
	threefold, _ := canon.Sum(granny, 3, samples.Trefoil(), 2)
	for _, x := range []struct {
		what    string
		d       api.Diagram
		p, want int
	}{
		{"the trefoil", samples.Trefoil(), 3, 2},
		{"the trefoil", samples.Trefoil(), 5, 1},
		{"the trefoil", samples.Trefoil(), 2, 1},
		{"the trefoil", samples.Trefoil(), 97, 1},
		{"the figure of eight", eight, 5, 2},
		{"the figure of eight", eight, 3, 1},
		{"two rings, linked", samples.Chain(2, true), 2, 2},
		{"two rings, linked", samples.Chain(2, true), 3, 1},
		{"two rings, linked twice", samples.Chain(4, false), 2, 2},
		{"two rings, one upon the other", samples.OfText("X+[2,3,1,4] X-[1,3,2,4]"), 7, 2},
		{"Whitehead's link", whitehead, 2, 2},
		{"Whitehead's link", whitehead, 3, 1},
		{"Borromeo's rings", borromeo, 2, 3},
		{"Borromeo's rings", borromeo, 3, 1},
		{"two trefoils tied", granny, 3, 3},
		{"two trefoils tied", granny, 5, 1},
		{"three trefoils tied", threefold, 3, 4},
		{"two trefoils apart", samples.Beside(samples.Trefoil(), samples.Trefoil()), 3, 4},
		{"a trefoil and a loop", samples.Beside(samples.Trefoil(), samples.With(1)), 3, 3},
		{"one loop", samples.With(1), 2, 1},
		{"as many loops as may be", samples.With(api.MaxLoops), 97, api.MaxLoops},
		{"as many crossings and loops as may be", samples.Beside(samples.Chain(api.MaxCross, true), samples.With(api.MaxLoops)), 2, 18},
		{"as many crossings in curls as may be", manyCurls(api.MaxCross), 97, api.MaxCross},
		{"as many rings upon one as may be", moved.RingsUpon(8), 97, 9},
	} {
		if got := fox(t, x.d, x.p); got != x.want {
			t.Error(x.what, "modulo", x.p, got, "wanted:", x.want)
		}
	}
}

// P7.2: two strands that wind around one another n times have more colourings than those of one colour where p divides n.
func TestFoxOfChains(t *testing.T) {
	for n := 1; n <= api.MaxCross; n++ {
		for _, p := range primes() {
			want := 1
			if n%p == 0 {
				want = 2
			}
			if got := fox(t, samples.Chain(n, n%3 == 0), p); got != want {
				t.Error(n, "modulo", p, got, "wanted:", want)
			}
		}
	}
}

// P7.2: all colourings are gone through, and counted.
func TestFoxByCounting(t *testing.T) {
	asked := map[int]int{}
	for _, d := range moved.Ones() {
		over := overs(t, d)
		most := len(d.Crosses)
		for _, n := range over {
			most = max(most, n+1)
		}
		for _, p := range []int{2, 3, 5, 7, 11, 13} {
			if power(p, min(most, 20)) > 20000 {
				break
			}
			asked[p]++
			found := 0
			for number := range power(p, most) {
				if foxHolds(d, over, number, p) {
					found++
				}
			}
			if got := fox(t, d, p); power(p, got-d.Loops) != found {
				t.Fatal(d, "modulo", p, got, "wanted of overpasses:", found)
			}
		}
	}
	for _, p := range []int{2, 3, 5, 7, 11, 13} {
		if asked[p] < 50 {
			t.Error("too few modulo", p, asked)
		}
	}
}

// foxHolds: is it a colouring, by the chapter's words? The colours of the overpasses are the digits of a number, with p as its base.
func foxHolds(d api.Diagram, over []int, number, p int) bool {
	of := func(arc int) int { return number / power(p, over[arc-1]) % p }
	for _, c := range d.Crosses {
		if of(c.B) != of(c.D) || 2*of(c.B)%p != (of(c.A)+of(c.C))%p {
			return false
		}
	}
	return true
}

// P7.2: with all primes: a knot has more colourings than those of one colour where its determinant is 0 modulo p.
func TestFoxByDeterminants(t *testing.T) {
	more := map[int]int{}
	die := samples.Die(72)
	for range 400 {
		d := samples.Weave(3, alternating(&die, 3+die.Below(5)))
		if len(overs(t, d)) != 2*len(d.Crosses) || d.Loops > 0 || !asManyOvers(t, d) {
			continue
		}
		det := determinant(t, d)
		for _, p := range primes() {
			got := fox(t, d, p)
			if (got > 1) != (det%p == 0) {
				t.Fatal(d, "modulo", p, got, "its determinant:", det)
			}
			if got > 1 {
				more[p]++
			}
		}
	}
	if len(more) < 10 {
		t.Error("too few primes with colourings:", more)
	}
}

// alternating: a word of three strands, of so many letters, most of which alternate.
func alternating(die *samples.Die, letters int) []int {
	var word []int
	for range letters {
		word = append(word, []int{1, -2, 1, -2, 1, -2, -1, 2}[die.Below(8)])
	}
	return word
}

// asManyOvers: has the diagram as many overpasses as crossings?
func asManyOvers(t *testing.T, d api.Diagram) bool {
	t.Helper()
	for _, n := range overs(t, d) {
		if n >= len(d.Crosses) {
			return false
		}
	}
	return true
}

// determinant of the table of crossings and overpasses, without the last one of each.
func determinant(t *testing.T, d api.Diagram) int {
	t.Helper()
	n, over := len(d.Crosses), overs(t, d)
	table := make([][][]api.Term, n-1)
	for i := range table {
		table[i] = make([][]api.Term, n-1)
		c := d.Crosses[i]
		row := make([]int, n)
		row[over[c.B-1]] += 2
		row[over[c.A-1]]--
		row[over[c.C-1]]--
		for j := range table[i] {
			if row[j] != 0 {
				table[i][j] = []api.Term{{Coef: row[j]}}
			}
		}
	}
	det, e := poly.Det(table)
	if e != api.OK {
		t.Fatal(d, e)
	}
	value, _ := poly.At(det, 1)
	return value
}

// What comes of it (P7.2): Fox is the same along every move, with a part reversed, and of a mirror image; it grows by what a diagram beside has.
func TestFoxAlongMoves(t *testing.T) {
	kinds := map[int]int{}
	for i, d := range moved.Ones() {
		p := primes()[i%6]
		want := fox(t, d, p)
		if want < 1 {
			t.Fatal(d, "modulo", p, want)
		}
		for _, m := range moved.Steps(d, i) {
			kinds[m.Kind]++
			if got := fox(t, m.To, p); got != want {
				t.Fatal(d, m, "modulo", p, got, "wanted:", want)
			}
		}
		image, _ := canon.Mirror(d)
		other := api.Diagram{Loops: d.Loops}
		if len(d.Crosses) > 0 {
			other, _ = canon.Reverse(d, 0)
		}
		if fox(t, image, p) != want || fox(t, other, p) != want {
			t.Fatal(d, "modulo", p, fox(t, image, p), fox(t, other, p), "wanted:", want)
		}
		if d.Loops < api.MaxLoops && len(d.Crosses) <= api.MaxCross-3 {
			both := samples.Beside(d, samples.Beside(samples.Trefoil(), samples.With(1)))
			if got := fox(t, both, 3); got != fox(t, d, 3)+3 {
				t.Fatal(both, "modulo 3", got)
			}
		}
	}
	for kind := api.Curl; kind <= api.Slide; kind++ {
		if kinds[kind] < 50 {
			t.Error("too few moves of kind", kind, kinds)
		}
	}
}

// P7.2: modulo 2 each part has a colour of its own.
func TestFoxOfParts(t *testing.T) {
	for _, d := range moved.Ones() {
		if got := fox(t, d, 2); got != parts(d) {
			t.Fatal(d, got, "wanted:", parts(d))
		}
	}
}

// P7.2: what is no prime from 2 to 97 is refused, ahead of all that may be wrong with a diagram; the primes are not.
func TestFoxPrimes(t *testing.T) {
	prime := map[int]bool{}
	for _, p := range primes() {
		prime[p] = true
	}
	asked := []int{math.MinInt, math.MinInt + 1, -97, 97 * 97, 1009, 1 << 31, 1<<31 - 1, 1<<32 + 3, 1<<62 + 1, math.MaxInt - 1, math.MaxInt}
	for p := -10; p <= 130; p++ {
		asked = append(asked, p)
	}
	for _, p := range asked {
		want := api.ErrRange
		if prime[p] {
			want = api.OK
		}
		if n, e := colour.Fox(samples.Trefoil(), p); e != want || (n == 0) != (e != api.OK) {
			t.Error(p, n, e, "wanted:", want)
		}
		if want == api.OK {
			continue
		}
		for _, wrong := range samples.WrongOnes() {
			if n, e := colour.Fox(wrong.Diagram, p); n != 0 || e != want {
				t.Error(p, wrong.What, n, e)
			}
		}
		if n, e := colour.Fox(samples.OfText("X-[1,2,1,2]"), p); n != 0 || e != want {
			t.Error(p, "on no sphere", n, e)
		}
	}
}
