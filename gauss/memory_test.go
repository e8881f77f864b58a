package gauss_test

import (
	"slices"
	"testing"

	"knotwork/api"
	"knotwork/gauss"
	"knotwork/samples"
)

// What holds everywhere: what is handed in stays as it is, spare room too.
func TestNothingChanges(t *testing.T) {
	for _, d := range []api.Diagram{samples.Trefoil(), samples.Chain(2, true), samples.OfText("X-[1,2,1,2] O"), samples.With(0, api.Cross{A: 9}), samples.With(0)} {
		if !samples.Unchanged(d, func(given api.Diagram) {
			gauss.Strands(given)
			gauss.Gauss(given)
			gauss.Dowker(given)
		}) {
			t.Error(d, "was changed")
		}
	}
}

// What holds everywhere: Build changes neither visits nor signs, spare room neither.
func TestBuildChangesNothing(t *testing.T) {
	for _, x := range []struct{ visits, plus string }{
		{"(0_ 2^ 1_ 0^ 2_ 1^)", "-+-"}, {"(1^ 0_) (1_ 0^)", "++"}, {"(0_ 0_) ()", "-"}, {"(0_ 7^)", "+"}, {"", ""},
	} {
		l := samples.WithRoom(walks(x.visits), []api.Visit{{Cross: 77}})
		for i := range l {
			l[i] = samples.WithRoom(l[i], api.Visit{Cross: 78})
		}
		plus := samples.WithRoom(signs(x.plus), true)
		all := slices.Clone(l[:cap(l)])
		for i := range all {
			all[i] = slices.Clone(all[i][:cap(all[i])])
		}
		allPlus := slices.Clone(plus[:cap(plus)])
		gauss.Build(l, plus, 1)
		for i, part := range l[:cap(l)] {
			if !slices.Equal(part[:cap(part)], all[i]) {
				t.Error(x, "part", i, "was changed")
			}
		}
		if !slices.Equal(plus[:cap(plus)], allPlus) {
			t.Error(x, "signs were changed")
		}
	}
}

// What holds everywhere: no two lists of an answer share memory, and it is new each time.
func TestMemoryOfAnswers(t *testing.T) {
	d := samples.Beside(samples.Chain(4, true), samples.Beside(samples.Trefoil(), samples.Chain(2, false)))
	if !samples.Apart(99, func() [][]int {
		l, _ := gauss.Strands(d)
		return l
	}) {
		t.Error("Strands: memory is shared")
	}
	if !samples.Apart(api.Visit{Cross: 99}, func() [][]api.Visit {
		l, _, _ := gauss.Gauss(d)
		return l
	}) {
		t.Error("Gauss: memory is shared")
	}
	if !samples.Apart(true, func() [][]bool {
		_, plus, _ := gauss.Gauss(samples.Trefoil())
		return [][]bool{plus}
	}) {
		t.Error("Gauss: the signs' memory is shared")
	}
	if !samples.Apart(99, func() [][]int {
		l, _ := gauss.Dowker(samples.Trefoil())
		return [][]int{l}
	}) {
		t.Error("Dowker: memory is shared")
	}
}

// What holds everywhere: what Build was given is not kept, and what it made is new each time.
func TestMemoryOfBuild(t *testing.T) {
	l, plus, _ := gauss.Gauss(samples.Trefoil())
	first, _ := gauss.Build(l, plus, 0)
	clear(l[0])
	clear(plus)
	if !samples.Alike(first, samples.Trefoil()) {
		t.Error(first)
	}
	l, plus, _ = gauss.Gauss(samples.Trefoil())
	clear(first.Crosses[:cap(first.Crosses)])
	if second, _ := gauss.Build(l, plus, 0); !samples.Alike(second, samples.Trefoil()) {
		t.Error(second)
	}
}
