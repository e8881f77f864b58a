package braid_test

import (
	"fmt"
	"slices"
	"testing"

	"knotwork/api"
	"knotwork/samples"
)

// P13.3: told by hand.
func TestNormalByHand(t *testing.T) {
	for _, x := range []struct {
		n     int
		word  []int
		power int
		want  [][]int
	}{
		{2, nil, 0, nil},
		{6, []int{}, 0, nil},
		{2, []int{1}, 1, nil},
		{2, []int{-1}, -1, nil},
		{2, []int{-1, -1, -1, 1}, -2, nil},
		{3, []int{1, 2, 1}, 1, nil},
		{3, []int{2, 1, 2}, 1, nil},
		{3, []int{-2, -1, -2}, -1, nil},
		{3, []int{1, -1}, 0, nil},
		{3, []int{1}, 0, [][]int{{2, 1, 3}}},
		{3, []int{2}, 0, [][]int{{1, 3, 2}}},
		{3, []int{-1}, -1, [][]int{{3, 1, 2}}}, // 1, 2
		{3, []int{-2}, -1, [][]int{{2, 3, 1}}}, // 2, 1
		{3, []int{1, 1}, 0, [][]int{{2, 1, 3}, {2, 1, 3}}},
		{3, []int{1, 2}, 0, [][]int{{3, 1, 2}}},
		{3, []int{2, 1}, 0, [][]int{{2, 3, 1}}},
		{3, []int{1, 2, 2}, 0, [][]int{{3, 1, 2}, {1, 3, 2}}},
		{3, []int{1, 1, 2}, 0, [][]int{{2, 1, 3}, {3, 1, 2}}},
		{3, []int{1, 1, 2, 1}, 1, [][]int{{1, 3, 2}}}, // 1 goes past Delta, and is 2 behind it
		{3, []int{1, 2, 1, 1}, 1, [][]int{{2, 1, 3}}},
		{3, []int{-1, -1}, -2, [][]int{{2, 3, 1}, {3, 1, 2}}},
		{3, []int{1, -2}, -1, [][]int{{1, 3, 2}, {2, 3, 1}}},
		{4, []int{1, 3}, 0, [][]int{{2, 1, 4, 3}}},
		{4, []int{3, 1, 1, 3}, 0, [][]int{{2, 1, 4, 3}, {2, 1, 4, 3}}},
		{4, []int{1, 1, 3}, 0, [][]int{{2, 1, 4, 3}, {2, 1, 3, 4}}},
	} {
		power, got := normal(t, x.n, x.word)
		if power != x.power || !alike(got, x.want) {
			t.Error(x.n, x.word, power, got, "wanted:", x.power, x.want)
		}
	}
}

// P13.3: what is told is that braid.
func TestNormalIsThatBraid(t *testing.T) {
	for _, x := range rightOnes() {
		power, factors := normal(t, x.Strands, x.Word)
		if again := wordOfForm(x.Strands, power, factors); marksOf(again) != marksOf(x.Word) {
			t.Fatal(x, power, factors, again)
		}
	}
}

// P13.3: permutation braids, none without letters, none Delta, each two neighbours as the promise says.
func TestNormalIsOfThatForm(t *testing.T) {
	neighbours := 0
	for _, x := range rightOnes() {
		_, factors := normal(t, x.Strands, x.Word)
		for k, p := range factors {
			if !permutation(x.Strands, p) {
				t.Fatal(x, factors)
			}
			if letters := len(wordOf(p)); letters == 0 || letters == x.Strands*(x.Strands-1)/2 {
				t.Fatal(x, factors)
			}
			if k > 0 {
				neighbours++
				if !follows(x.Strands, factors[k-1], p) {
					t.Fatal(x, factors, k)
				}
			}
		}
	}
	if neighbours < 5000 {
		t.Error("too few:", neighbours)
	}
}

// permutation of the numbers from 1 to n?
func permutation(n int, l []int) bool {
	sorted := slices.Sorted(slices.Values(l))
	for i, x := range sorted {
		if x != i+1 {
			return false
		}
	}
	return len(sorted) == n
}

// follows: where in the second one the strands that begin at the places i and i + 1 change places, do those that end there in the first one?
func follows(n int, first, second []int) bool {
	ends, inFirst := followed(n, wordOf(first))
	_, inSecond := followed(n, wordOf(second))
	for i := 1; i < n; i++ {
		a, b := slices.Index(ends, i)+1, slices.Index(ends, i+1)+1
		if inSecond[pair{i, i + 1}] > 0 && inFirst[pair{min(a, b), max(a, b)}] == 0 {
			return false
		}
	}
	return true
}

// The means of these tests: what follows what, told by hand.
func TestFollows(t *testing.T) {
	one, two, oneTwo, twoOne := []int{2, 1, 3}, []int{1, 3, 2}, []int{3, 1, 2}, []int{2, 3, 1}
	for _, x := range []struct {
		first, second []int
		want          bool
	}{
		{one, one, true}, {one, two, false}, {one, oneTwo, true}, {one, twoOne, false},
		{oneTwo, two, true}, {oneTwo, one, false}, {oneTwo, oneTwo, false}, {oneTwo, twoOne, true},
	} {
		if got := follows(3, x.first, x.second); got != x.want {
			t.Error(x, got)
		}
	}
}

// P13.3: all forms of few factors are told as they are: what is handed in as such a form's word has it as its own.
func TestNormalOfForms(t *testing.T) {
	asked := 0
	for n := 3; n <= 4; n++ {
		most := n * (n - 1) / 2
		for _, p := range permutations(n) {
			for _, q := range permutations(n) {
				a, b := len(wordOf(p)), len(wordOf(q))
				if a == 0 || a == most || b == 0 || b == most || !follows(n, p, q) {
					continue
				}
				for power := -1; power <= 1; power++ {
					word := wordOfForm(n, power, [][]int{p, q})
					if len(word) > api.MaxWord {
						continue
					}
					asked++
					if got, factors := normal(t, n, word); got != power || !alike(factors, [][]int{p, q}) {
						t.Fatal(n, word, got, factors, "wanted:", power, p, q)
					}
				}
			}
		}
	}
	if asked < 300 {
		t.Error("too few:", asked)
	}
}

// P13.3: there is just one such way: words that are one braid have the same form, and others have not.
func TestNormalIsOne(t *testing.T) {
	for i, most := range []int{8, 6, 4, 3, 3} {
		n := 2 + i
		forms, braids := map[string]marks{}, map[marks]string{}
		for _, w := range samples.ShortWords(n, most) {
			power, factors := normal(t, n, w)
			form, m := fmt.Sprint(power, factors), marksOf(w)
			if one, ok := forms[form]; ok && one != m {
				t.Fatal(n, w, "has the form of another braid:", form)
			}
			if one, ok := braids[m]; ok && one != form {
				t.Fatal(n, w, "has two forms:", form, one)
			}
			forms[form], braids[m] = m, form
		}
	}
}

// P13.3, P13.4: rules of braids do not change the form, of as many letters as may be.
func TestNormalOfRewritten(t *testing.T) {
	die := samples.Die(135)
	for i := range 2000 {
		n := 2 + i%5
		word := samples.DrawnWord(&die, n, die.Below(api.MaxWord+1))
		again := samples.Rewritten(&die, n, word, api.MaxWord)
		power, factors := normal(t, n, word)
		if got, other := normal(t, n, again); got != power || !alike(other, factors) {
			t.Fatal(n, word, power, factors, again, got, other)
		}
	}
}

// What comes of it: Delta ahead of a word, or its reciprocal, changes the power alone; twice behind it, too.
func TestNormalOfHalfTurns(t *testing.T) {
	die := samples.Die(136)
	for i := range 1000 {
		n := 2 + i%5
		half := samples.HalfTurn(n)
		word := samples.DrawnWord(&die, n, die.Below(api.MaxWord-len(half)+1))
		power, factors := normal(t, n, word)
		for by, turn := range map[int][]int{1: half, -1: samples.Undone(half)} {
			if got, other := normal(t, n, slices.Concat(turn, word)); got != power+by || !alike(other, factors) {
				t.Fatal(n, by, word, power, factors, got, other)
			}
			behind := slices.Concat(word, turn, turn)
			if len(behind) > api.MaxWord {
				continue
			}
			if got, other := normal(t, n, behind); got != power+2*by || !alike(other, factors) {
				t.Fatal(n, by, "twice behind", word, power, factors, got, other)
			}
		}
	}
}

// P13.3: one letter, as often as may be: each leaves a permutation braid, and one below 0 takes 1 from the power; of two strands there are none but Delta.
func TestNormalOfMany(t *testing.T) {
	power, factors := normal(t, 6, slices.Repeat([]int{3}, api.MaxWord))
	if power != 0 || len(factors) != api.MaxWord {
		t.Error(power, factors)
	}
	power, factors = normal(t, 6, slices.Repeat([]int{-3}, api.MaxWord))
	if power != -api.MaxWord || len(factors) != api.MaxWord {
		t.Error(power, factors)
	}
	power, factors = normal(t, 2, slices.Repeat([]int{-1}, api.MaxWord))
	if power != -api.MaxWord || len(factors) != 0 {
		t.Error(power, factors)
	}
}
