package khovanov_test

import (
	"fmt"
	"math/big"
	"slices"
	"strings"
	"testing"

	"knotwork/api"
	"knotwork/moved"
	"knotwork/samples"
)

// told: a marked state in words: of each crossing A or B, and of each ring, which is told by its arcs, + or -.
type told struct {
	ways  string
	marks map[string]int // 1 for +, -1 for -
}

// text by which it is known.
func (s told) text() string { return fmt.Sprint(s.ways, s.marks) }

// with other ways, and other marks of some rings.
func (s told) with(ways string, left []string, marks map[string]int) told {
	other := told{ways, marks}
	for _, ring := range left {
		other.marks[ring] = s.marks[ring]
	}
	return other
}

// ringsOf a state: sets of arcs that are tied, and loops.
func ringsOf(d api.Diagram, ways string) []string {
	var sets [][]int
	for arc := range 2 * len(d.Crosses) {
		sets = append(sets, []int{arc + 1})
	}
	tie := func(x, y int) {
		find := func(arc int) int {
			return slices.IndexFunc(sets, func(set []int) bool { return slices.Contains(set, arc) })
		}
		if i, j := find(x), find(y); i != j {
			sets[i] = append(sets[i], sets[j]...)
			sets = slices.Delete(sets, j, j+1)
		}
	}
	for k, c := range d.Crosses {
		if ways[k] == 'A' {
			tie(c.A, c.B)
			tie(c.C, c.D)
		} else {
			tie(c.B, c.C)
			tie(c.D, c.A)
		}
	}
	var rings []string
	for _, set := range sets {
		slices.Sort(set)
		rings = append(rings, fmt.Sprint(set))
	}
	for loop := range d.Loops {
		rings = append(rings, fmt.Sprint("loop", loop))
	}
	return rings
}

// allWays: all texts of so many letters A and B.
func allWays(letters int) []string {
	l := []string{""}
	for range letters {
		var more []string
		for _, s := range l {
			more = append(more, s+"A", s+"B")
		}
		l = more
	}
	return l
}

// allTold: all marked states of a diagram.
func allTold(d api.Diagram) []told {
	var l []told
	for _, ways := range allWays(len(d.Crosses)) {
		rings := ringsOf(d, ways)
		for number := range 1 << len(rings) {
			marks := map[string]int{}
			for i, ring := range rings {
				marks[ring] = 1 - 2*(number>>i&1)
			}
			l = append(l, told{ways, marks})
		}
	}
	return l
}

// degreesOf a marked state.
func degreesOf(d api.Diagram, s told) (first, second int) {
	h := strings.Count(s.ways, "B")
	first, second = h, h
	for _, c := range d.Crosses {
		if c.Plus {
			second++
		} else {
			first--
			second -= 2
		}
	}
	for _, mark := range s.marks {
		second += mark
	}
	return first, second
}

// madeAt: what comes of a marked state when the crossing k is undone by B.
func madeAt(d api.Diagram, s told, k int) []told {
	ways := s.ways[:k] + "B" + s.ways[k+1:]
	var left, gone, come []string
	rings := ringsOf(d, ways)
	for _, ring := range rings {
		if s.marks[ring] != 0 {
			left = append(left, ring)
		} else {
			come = append(come, ring)
		}
	}
	for ring := range s.marks {
		if !slices.Contains(rings, ring) {
			gone = append(gone, ring)
		}
	}
	if len(gone) == 2 && len(come) == 1 {
		switch s.marks[gone[0]] + s.marks[gone[1]] {
		case 2:
			return []told{s.with(ways, left, map[string]int{come[0]: 1})}
		case 0:
			return []told{s.with(ways, left, map[string]int{come[0]: -1})}
		}
		return nil
	}
	if len(gone) != 1 || len(come) != 2 {
		panic("neither do two rings become one, nor one two")
	}
	if s.marks[gone[0]] < 0 {
		return []told{s.with(ways, left, map[string]int{come[0]: -1, come[1]: -1})}
	}
	return []told{s.with(ways, left, map[string]int{come[0]: 1, come[1]: -1}), s.with(ways, left, map[string]int{come[0]: -1, come[1]: 1})}
}

// madeOf a marked state, by d.
func madeOf(d api.Diagram, s told) []told {
	var l []told
	for k := range d.Crosses {
		if s.ways[k] == 'A' {
			l = append(l, madeAt(d, s, k)...)
		}
	}
	return l
}

// rank of rows modulo 2: of how many of them all are sums.
func rank(rows []*big.Int) int {
	count := 0
	for column := 0; len(rows) > 0; column++ {
		at := slices.IndexFunc(rows, func(row *big.Int) bool { return row.Bit(column) == 1 })
		if at >= 0 {
			head := rows[at]
			rows = slices.Delete(rows, at, at+1)
			for _, row := range rows {
				if row.Bit(column) == 1 {
					row.Xor(row, head)
				}
			}
			count++
		}
		rows = slices.DeleteFunc(rows, func(row *big.Int) bool { return row.Sign() == 0 })
	}
	return count
}

// ranksByWords: by the tables of d, one for each pair of degrees.
func ranksByWords(d api.Diagram) []api.Term2 {
	type degrees struct{ first, second int }
	number, count := map[string]int{}, map[degrees]int{}
	all := allTold(d)
	for _, s := range all {
		first, second := degreesOf(d, s)
		number[s.text()] = count[degrees{first, second}]
		count[degrees{first, second}]++
	}
	tables := map[degrees][]*big.Int{}
	for _, s := range all {
		first, second := degreesOf(d, s)
		row := new(big.Int)
		for _, to := range madeOf(d, s) {
			if x, z := degreesOf(d, to); x != first+1 || z != second {
				panic("d does not keep the second degree, or add 1 to the first")
			}
			place := number[to.text()]
			row.SetBit(row, place, row.Bit(place)^1)
		}
		tables[degrees{first, second}] = append(tables[degrees{first, second}], row)
	}
	var l []api.Term2
	made := map[degrees]int{}
	for at, table := range tables {
		made[at] = rank(table)
	}
	for at, n := range count {
		if coef := n - made[at] - made[degrees{at.first - 1, at.second}]; coef != 0 {
			l = append(l, api.Term2{X: at.first, Z: at.second, Coef: coef})
		}
	}
	return pairs(l).InForm()
}

// P15.1: of the words that the others are held against: d of d is nothing.
func TestTwice(t *testing.T) {
	for _, d := range []api.Diagram{samples.Trefoil(), samples.OfText("X+[4,2,1,3] X+[2,4,3,1] O"), moved.CurlsApart(2, 1), samples.Weave(3, []int{1, -2, 1, -2})} {
		for _, s := range allTold(d) {
			count := map[string]int{}
			for _, one := range madeOf(d, s) {
				for _, two := range madeOf(d, one) {
					count[two.text()]++
				}
			}
			for text, n := range count {
				if n%2 != 0 {
					t.Fatal(d, s, "makes", text)
				}
			}
		}
	}
}

// P15.1, P15.2: of many diagrams, by the chapter's words; of those that have not all too many marked states.
func TestByWords(t *testing.T) {
	pieces, loops, crosses := map[int]int{}, map[int]int{}, map[int]int{}
	for _, d := range smallOnes() {
		if len(allTold(d)) > 500 {
			continue
		}
		if got, want := ranks(t, d), ranksByWords(d); !slices.Equal(got, want) {
			t.Fatal(d, got, "wanted:", want)
		}
		crosses[len(d.Crosses)]++
		loops[d.Loops]++
		pieces[piecesOf(d)]++
	}
	for n := 1; n <= most; n++ {
		if crosses[n] < 15 {
			t.Error("too few of", n, "crossings:", crosses)
		}
	}
	if loops[0] < 50 || loops[1] < 15 || loops[2] < 15 || pieces[1] < 50 || pieces[2] < 15 {
		t.Error("too few:", loops, pieces)
	}
}
