package sign_test

import (
	"slices"
	"testing"

	"knotwork/alex"
	"knotwork/api"
	"knotwork/canon"
	"knotwork/gauss"
	"knotwork/moved"
	"knotwork/samples"
	"knotwork/wind"
)

// none: what Arf is of links that are no knots, in the tests.
const none = -1

// P9.3, P9.4: knots and links whose signatures and Arfs are known.
func TestKnown(t *testing.T) {
	for _, x := range []struct {
		what           string
		strands        int
		word           []int
		signature, arf int
	}{
		{"the trefoil", 2, []int{1, 1, 1}, 2, 1},
		{"the figure of eight", 3, []int{1, -2, 1, -2}, 0, 1},
		{"five crossings, the first", 2, []int{1, 1, 1, 1, 1}, 4, 1},
		{"five crossings, the second", 3, []int{1, 1, 1, 2, -1, 2}, 2, 0},
		{"six crossings, the first", 4, []int{1, 1, 2, -1, -3, 2, -3}, 0, 0},
		{"six crossings, the second", 3, []int{-1, -1, -1, 2, -1, 2}, -2, 1},
		{"six crossings, the third", 3, []int{-1, -1, 2, -1, 2, 2}, 0, 1},
		{"seven crossings, the first", 2, []int{1, 1, 1, 1, 1, 1, 1}, 6, 0},
		{"eight crossings, the 18th", 3, []int{1, -2, 1, -2, 1, -2, 1, -2}, 0, 1},
		{"eight crossings, the 19th", 3, []int{1, 1, 1, 2, 1, 1, 1, 2}, 6, 1},
		{"eight crossings, the 20th", 3, []int{1, 1, 1, -2, -1, -1, -1, -2}, 0, 0},
		{"eight crossings, the 21st", 3, []int{1, 1, 1, 2, -1, -1, 2, 2}, 2, 0},
		{"nine crossings, the first", 2, []int{1, 1, 1, 1, 1, 1, 1, 1, 1}, 8, 0},
		{"ten crossings, the 123rd", 3, []int{1, -2, 1, -2, 1, -2, 1, -2, 1, -2}, 0, 0},
		{"ten crossings, the 124th", 3, []int{1, 1, 1, 1, 1, 2, 1, 1, 1, 2}, 8, 0},
		{"ten crossings, the 139th", 3, []int{1, 1, 1, 1, 2, 1, 1, 1, 2, 2}, 6, 1},
		{"ten crossings, the 161st", 3, []int{1, 1, 1, 2, -1, 2, 1, 1, 2, 2}, 4, 1},
		{"no knot, of ten crossings", 3, []int{1, 2, 1, 2, 1, -2, -1, -2, -1, 2}, 0, 0},
		{"a ring of one curl", 2, []int{1}, 0, 0},
		{"a ring of two curls", 3, []int{1, -2}, 0, 0},
		{"two rings, linked", 2, []int{1, 1}, 1, none},
		{"two rings, linked twice", 2, []int{1, 1, 1, 1}, 3, none},
		{"two rings that part", 2, []int{1, -1}, 0, none},
		{"three rings in a row", 3, []int{1, 1, 2, 2}, 2, none},
		{"three rings in a row, linked the one way and the other", 3, []int{1, 1, -2, -2}, 0, none},
		{"three rings, each linked to each", 3, []int{1, 2, 1, 2, 1, 2}, 4, none},
		{"Whitehead's link", 3, []int{1, -2, 1, -2, -2}, -1, none},
		{"Borromeo's rings", 3, []int{1, -2, 1, -2, 1, -2}, 0, none},
	} {
		d := samples.Weave(x.strands, x.word)
		for times, one := range map[int]api.Diagram{1: d, -1: moved.Mirrored(d)} {
			if got := signature(t, one); got != times*x.signature {
				t.Error("Signature:", x.what, times, got, "wanted:", times*x.signature)
			}
			if x.arf == none {
				continue
			}
			if got := arf(t, one); got != x.arf {
				t.Error("Arf:", x.what, times, got, "wanted:", x.arf)
			}
		}
	}
}

// The chapter's examples: the trefoil of chapter 2, and the figure of eight.
func TestExamples(t *testing.T) {
	eight := samples.OfText("X+[4,2,5,1] X+[8,6,1,5] X-[6,3,7,4] X-[2,7,3,8]")
	for _, x := range []struct {
		what           string
		d              api.Diagram
		signature, arf int
	}{{"the trefoil", samples.Trefoil(), -2, 1}, {"the figure of eight", eight, 0, 1}} {
		if s, a := signature(t, x.d), arf(t, x.d); s != x.signature || a != x.arf {
			t.Error(x.what, s, a)
		}
	}
}

// P9.3: links on a torus: of p strands and q turns each pair of i/p and j/q counts, by where their sum lies.
func TestOnTorus(t *testing.T) {
	for p := 2; p <= 9; p++ {
		for q := 1; (p-1)*q <= api.MaxCross; q++ {
			var turn []int
			for letter := 1; letter < p; letter++ {
				turn = append(turn, letter)
			}
			want := 0
			for i := 1; i < p; i++ {
				for j := 1; j < q; j++ {
					// Twice the sum lies between 1 and 3, or beyond them, or at one of them.
					switch twice := 2 * (i*q + j*p); {
					case twice > p*q && twice < 3*p*q:
						want++
					case twice < p*q || twice > 3*p*q:
						want--
					}
				}
			}
			if got := signature(t, samples.Weave(p, slices.Repeat(turn, q))); got != want {
				t.Error(p, q, got, "wanted:", want)
			}
		}
	}
}

// P9.3, P9.4: of many diagrams: both tables, told in squares by other means, have the same signature and determinant, and the calls tell of them.
func TestBothShades(t *testing.T) {
	signs, zero, knots := map[int]int{}, 0, [2]int{}
	for _, d := range singles() {
		want := signature(t, d)
		signs[want]++
		var dets [2]int
		for shade := range 2 {
			table, correction := goeritz(t, d, shade)
			squares, det := inSquares(inner(table))
			if squares-correction != want {
				t.Fatal(d, "of shade", shade, squares, correction, "wanted:", want)
			}
			dets[shade] = size(t, det)
		}
		if dets[0] != dets[1] {
			t.Fatal(d, "determinants:", dets)
		}
		if dets[0] == 0 {
			zero++
		}
		if !moved.Knot(d) {
			continue
		}
		a := 1
		if dets[0]%8 == 1 || dets[0]%8 == 7 {
			a = 0
		}
		knots[a]++
		if got := arf(t, d); got != a || want%2 != 0 {
			t.Fatal(d, want, got, "of determinant", dets[0])
		}
	}
	for s := -4; s <= 4; s++ {
		if signs[s] < 4 {
			t.Error("too few of signature", s, signs)
		}
	}
	if zero < 20 || knots[0] < 20 || knots[1] < 20 {
		t.Error("too few:", zero, knots)
	}
}

// What comes of it: the determinant's size is that of chapter 8.
func TestDeterminant(t *testing.T) {
	asked := 0
	for _, d := range singles() {
		want, e := alex.Determinant(d)
		if e != api.OK {
			continue
		}
		asked++
		table, _ := goeritz(t, d, 0)
		if _, det := inSquares(inner(table)); size(t, det) != want {
			t.Fatal(d, det, "wanted:", want)
		}
	}
	if asked < 100 {
		t.Error("too few:", asked)
	}
}

// What comes of it: both are the same along every move, as long as there is one piece.
func TestAlongMoves(t *testing.T) {
	kinds := map[int]int{}
	for i, d := range singles() {
		want := signature(t, d)
		for _, m := range moved.Steps(d, i) {
			if !single(m.To) {
				continue
			}
			if want != 0 {
				kinds[m.Kind]++
			}
			if got := signature(t, m.To); got != want {
				t.Fatal(d, m, got, "wanted:", want)
			}
			if moved.Knot(d) && arf(t, m.To) != arf(t, d) {
				t.Fatal(d, m, arf(t, m.To), "wanted:", arf(t, d))
			}
		}
	}
	for kind := api.Curl; kind <= api.Slide; kind++ {
		if kinds[kind] < 20 {
			t.Error("too few moves of kind", kind, kinds)
		}
	}
}

// What comes of it: the signature of the mirror image is the opposite; Arf is the same. Whichever numbers arcs and crossings have, both are the same.
func TestMirrored(t *testing.T) {
	die := samples.Die(92)
	for _, d := range singles() {
		want, image, again := signature(t, d), moved.Mirrored(d), samples.Renamed(&die, d)
		if got := signature(t, image); got != -want {
			t.Fatal(image, got, "wanted:", -want)
		}
		if got := signature(t, again); got != want {
			t.Fatal(again, got, "wanted:", want)
		}
		if moved.Knot(d) && (arf(t, image) != arf(t, d) || arf(t, again) != arf(t, d)) {
			t.Fatal(d, arf(t, d), arf(t, image), arf(t, again))
		}
	}
}

// What comes of it: the signature of a sum is the sum, and Arf of it is 1 just if one of both is.
func TestSums(t *testing.T) {
	die := samples.Die(93)
	ones, links, knots := singles(), 0, [2]int{}
	for range 3000 {
		a, b, both, ok := moved.Summed(&die, ones, api.MaxCross)
		if !ok {
			continue
		}
		if got, want := signature(t, both), signature(t, a)+signature(t, b); got != want {
			t.Fatal(a, b, got, "wanted:", want)
		}
		if !moved.Knot(both) {
			links++
			continue
		}
		got := arf(t, both)
		knots[got]++
		if got != (arf(t, a)+arf(t, b))%2 {
			t.Fatal(a, b, got)
		}
	}
	if links < 50 || knots[0] < 50 || knots[1] < 50 {
		t.Error("too few:", links, knots)
	}
}

// P9.3: where one crossing is Plus in place of not, the signature is the same or more, by 2 at most.
func TestExchanged(t *testing.T) {
	more := map[int]int{}
	for _, d := range singles() {
		for k, c := range d.Crosses {
			less := signature(t, moved.Exchanged(d, k)) - signature(t, d)
			if c.Plus {
				less = -less
			}
			if more[less]++; less < 0 || less > 2 || less == 1 && moved.Knot(d) {
				t.Fatal(d, "at crossing", k, less)
			}
		}
	}
	if more[0] < 100 || more[1] < 100 || more[2] < 100 {
		t.Error("too few of one kind:", more)
	}
}

// P9.3: when parts run the other way round, the signature changes by as much as all linking together.
func TestReversed(t *testing.T) {
	changed := 0
	for _, d := range singles() {
		strands, _ := gauss.Strands(d)
		want := signature(t, d) - together(t, d)
		for part := range strands {
			reversed, e := canon.Reverse(d, part)
			if e != api.OK {
				t.Fatal(d, e)
			}
			if got := signature(t, reversed) - together(t, reversed); got != want {
				t.Fatal(d, "part", part, got, "wanted:", want)
			}
			if together(t, reversed) != together(t, d) {
				changed++
			}
		}
	}
	if changed < 50 {
		t.Error("too few:", changed)
	}
}

// together: how often each two parts are linked, all of them together.
func together(t *testing.T, d api.Diagram) int {
	t.Helper()
	table, e := wind.Linking(d)
	if e != api.OK {
		t.Fatal(d, e)
	}
	sum := 0
	for i, row := range table {
		for _, n := range row[:i] {
			sum += n
		}
	}
	return sum
}
