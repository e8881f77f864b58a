package moves_test

import (
	"slices"
	"testing"

	"knotwork/api"
	"knotwork/samples"
)

// Braids tell of moves without any compass: what a move does to a closure, a rule of braids does to the word.

// P5.1: a last letter that no other one stands beside is a curl of the strand to its left.
func TestCurlOfBraids(t *testing.T) {
	die := samples.Die(31)
	for range 300 {
		strands := 2 + die.Below(3)
		word := append(samples.DrawnWord(&die, strands, die.Below(9)), strands-1) // its last arc is the right one, so the one that is closed
		d := samples.Weave(strands, word)
		for _, x := range []struct{ letter, by int }{{strands, 3}, {-strands, 0}} {
			got := do(t, d, curl(2*len(word), x.by))
			if want := samples.Weave(strands+1, append(slices.Clone(word), x.letter)); !same(got, want) {
				t.Fatal(strands, word, x, got, "wanted:", want)
			}
		}
	}
}

// P5.3, P5.4: a letter and its opposite beside it are a Push of the strand on the left below the one on its right, or over it.
func TestPushOfBraids(t *testing.T) {
	die := samples.Die(32)
	for range 300 {
		strands := 2 + die.Below(3)
		word := samples.DrawnWord(&die, strands, 1+die.Below(9))
		k := die.Below(len(word))
		i := max(word[k], -word[k])
		d := samples.Weave(strands, word)
		// Behind the letter its strands go up on these arcs, a face between them:
		// going up, the right one has it to its left.
		left, right := 2*k+1, 2*k+2
		for _, letter := range []int{i, -i} {
			m := push(along(right), back(left), letter < 0)
			got := do(t, d, m)
			longer := samples.Weave(strands, slices.Insert(slices.Clone(word), k+1, letter, -letter))
			if !same(got, longer) {
				t.Fatal(strands, word, m, got, "wanted:", longer)
			}
			if back := do(t, longer, pull(k+1, k+2)); !same(back, d) {
				t.Fatal(strands, word, longer, "pulled:", back, "wanted:", d)
			}
		}
	}
}

// P5.5: three letters i, i+1, i are i+1, i, i+1, whatever the signs of the first and the last one, if the middle one has the sign of one of them; else the face between them is not so.
func TestSlideOfBraids(t *testing.T) {
	die := samples.Die(33)
	for range 600 {
		strands := 3 + die.Below(2)
		before, behind := samples.DrawnWord(&die, strands, die.Below(5)), samples.DrawnWord(&die, strands, die.Below(5))
		i := 1 + die.Below(strands-2)
		j := i + 1
		if die.Below(2) == 0 {
			i, j = j, i
		}
		a, b, c := 2*die.Below(2)-1, 2*die.Below(2)-1, 2*die.Below(2)-1
		d := samples.Weave(strands, slices.Concat(before, []int{a * i, b * j, c * i}, behind))
		k := len(before)
		at := slices.IndexFunc(facesOf(d), func(ring []api.Dart) bool { return slices.Equal(arcsOf(ring), inside(k, i < j)) })
		if a == c && a != b {
			if got, e := asByWords(t, d, slide(at)); e != api.ErrNone {
				t.Fatal(d, at, got, e)
			}
			continue
		}
		want := samples.Weave(strands, slices.Concat(before, []int{c * j, b * i, a * j}, behind))
		if got := do(t, d, slide(at)); !same(got, want) {
			t.Fatal(d, at, got, "wanted:", want)
		}
	}
}

// inside: the arcs around the face between the letter k and the next two, of which the middle one moves strands to the right of theirs, or to the left.
func inside(k int, right bool) []int {
	if right {
		return []int{2*k + 1, 2*k + 2, 2*k + 3}
	}
	return []int{2*k + 1, 2*k + 2, 2*k + 4}
}
