package code_test

import (
	"slices"
	"testing"

	"knotwork/api"
	"knotwork/code"
	"knotwork/samples"
)

// P2.1: what may be, its edges, and what may not be.
func TestMay(t *testing.T) {
	for _, x := range samples.RightOnes() {
		if !code.May(x.Diagram) {
			t.Error(x.What, "may be:", x.Diagram)
		}
	}
	for _, x := range samples.WrongOnes() {
		if code.May(x.Diagram) {
			t.Error(x.What, "may not be:", x.Diagram)
		}
	}
}

// P2.1: each number of crossings and of loops, up to beyond the limits.
func TestMayBySize(t *testing.T) {
	for n := range api.MaxCross + 5 {
		for loops := -3; loops < api.MaxLoops+5; loops++ {
			d := samples.Chain(n, n%2 == 0)
			d.Loops = loops
			want := n <= api.MaxCross && loops >= 0 && loops <= api.MaxLoops && (n > 0 || loops > 0)
			if code.May(d) != want {
				t.Error(n, "crossings and", loops, "loops: wanted:", want)
			}
		}
	}
}

// onceEach: does each number from 1 on stand there just once?
func onceEach(l []int) bool {
	slices.Sort(l)
	for i, x := range l {
		if x != i+1 {
			return false
		}
	}
	return true
}

// byWords: may it be, as the words of P2.1 say of its numbers?
func byWords(l []api.Cross) bool {
	var in, out []int
	for _, c := range l {
		in, out = append(in, c.A), append(out, c.C)
		if c.Plus {
			in, out = append(in, c.D), append(out, c.B)
		} else {
			in, out = append(in, c.B), append(out, c.D)
		}
	}
	return onceEach(in) && onceEach(out)
}

// P2.1: all crossings by themselves, with numbers from 0 to 3.
func TestMayOfOneCrossing(t *testing.T) {
	some := 0
	for i := range 2 * 4 * 4 * 4 * 4 {
		c := api.Cross{A: i / 2 % 4, B: i / 8 % 4, C: i / 32 % 4, D: i / 128, Plus: i%2 == 1}
		want := byWords([]api.Cross{c})
		if code.May(samples.With(0, c)) != want {
			t.Error(c, "wanted:", want)
		}
		if want {
			some++
		}
	}
	if some != 8 {
		t.Error(some, "of them may be, by the words")
	}
}

// P2.1: drawn ones may be; with a number, or a sign, changed they may as the words say.
func TestMayOfDrawnOnes(t *testing.T) {
	die := samples.Die(3)
	for _, d := range samples.DrawnOnes() {
		if !code.May(d) {
			t.Fatal(d, "may be")
		}
		for range 10 {
			l := slices.Clone(d.Crosses)
			c := &l[die.Below(len(l))]
			places := []*int{&c.A, &c.B, &c.C, &c.D}
			switch i := die.Below(4); die.Below(3) {
			case 0:
				*places[i] = die.Below(2*len(l) + 2)
			case 1:
				j := die.Below(4)
				*places[i], *places[j] = *places[j], *places[i]
			case 2:
				c.Plus = !c.Plus
			}
			if want := byWords(l); code.May(samples.With(0, l...)) != want {
				t.Fatal(l, "wanted:", want)
			}
		}
	}
}
