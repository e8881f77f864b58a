package gauss_test

import (
	"slices"
	"strconv"
	"strings"

	"knotwork/api"
	"knotwork/samples"
)

// walks: visits by a text: crossings with ^ behind them above, with _ below; parts in brackets.
func walks(s string) [][]api.Visit {
	var parts [][]api.Visit
	for _, inner := range strings.Split(s, "(")[1:] {
		var part []api.Visit
		for _, word := range strings.Fields(strings.TrimRight(inner, ") ")) {
			k, err := strconv.Atoi(word[:len(word)-1])
			if err != nil {
				panic(err)
			}
			part = append(part, api.Visit{Cross: k, Over: word[len(word)-1] == '^'})
		}
		parts = append(parts, part)
	}
	return parts
}

// signs of crossings: + is Plus.
func signs(s string) []bool {
	var l []bool
	for _, r := range s {
		l = append(l, r == '+')
	}
	return l
}

// equal: are both lists of lists the same?
func equal[E comparable](a, b [][]E) bool { return slices.EqualFunc(a, b, slices.Equal[[]E]) }

// passes: of each arc of a diagram which one comes behind it and what it visits, by the words of chapter 2.
func passes(d api.Diagram) (next map[int]int, visit map[int]api.Visit) {
	next, visit = map[int]int{}, map[int]api.Visit{}
	pass := func(k int, over bool, from, to int) {
		next[from], visit[from] = to, api.Visit{Cross: k, Over: over}
	}
	for k, c := range d.Crosses {
		pass(k, false, c.A, c.C)
		if c.Plus {
			pass(k, true, c.D, c.B)
		} else {
			pass(k, true, c.B, c.D)
		}
	}
	return next, visit
}

// drawnWalks: any visits that tell of a diagram: so many crossings, in so many parts at most, of which none is empty.
func drawnWalks(die *samples.Die, crosses, parts int) ([][]api.Visit, []bool) {
	var all []api.Visit
	var plus []bool
	for k := range crosses {
		all = append(all, api.Visit{Cross: k}, api.Visit{Cross: k, Over: true})
		plus = append(plus, die.Below(2) == 1)
	}
	for i := range all {
		j := die.Below(i + 1)
		all[i], all[j] = all[j], all[i]
	}
	var l [][]api.Visit
	for ; parts > 1 && len(all) > 1; parts-- {
		n := 1 + die.Below(len(all)-1)
		l, all = append(l, all[:n]), all[n:]
	}
	if len(all) > 0 {
		l = append(l, all)
	}
	return l, plus
}
