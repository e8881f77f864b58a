package table

import (
	"sync"
	"sync/atomic"

	"knotwork/api"
	"knotwork/canon"
	"knotwork/code"
	"knotwork/gauss"
	"knotwork/moves"
)

// workers at a table.
const workers = 4

// search for the knots of a table, which its workers share.
type search struct {
	crosses int
	listing sync.Once
	walks   [][]api.Visit
	taken   atomic.Int64
}

// found: the texts of all knots of a table, in whatever order, some more than once.
func found(crosses int) []string {
	s := &search{crosses: crosses}
	finds := make(chan []string)
	var wait sync.WaitGroup
	for range workers {
		wait.Add(1)
		go func() {
			defer wait.Done()
			finds <- s.work()
		}()
	}
	var all []string
	for range workers {
		all = append(all, <-finds...)
	}
	wait.Wait()
	return all
}

// work: what one worker finds, in the walks that it takes.
func (s *search) work() []string {
	s.listing.Do(func() { s.walks = alternating(s.crosses) })
	var texts []string
	for k := s.taken.Add(1); k <= int64(len(s.walks)); k = s.taken.Add(1) {
		texts = append(texts, knotsOf(s.walks[k-1])...)
	}
	return texts
}

// knotsOf a walk: the texts of those that belong in a table, whichever of its crossings are Plus.
func knotsOf(walk []api.Visit) []string {
	var texts []string
	plus := make([]bool, len(walk)/2)
	for ways := range 1 << len(plus) {
		for k := range plus {
			plus[k] = ways>>k&1 == 1
		}
		d, _ := gauss.Build([][]api.Visit{walk}, plus, 0)
		if !full(d) {
			continue
		}
		form, _ := canon.Canon(d)
		text, _ := code.Show(form)
		texts = append(texts, text)
	}
	return texts
}

// full: does it lie on a sphere, and can nothing be taken out of it?
func full(d api.Diagram) bool {
	_, taken, e := moves.Simple(d)
	return e == api.OK && len(taken) == 0
}

// alternating: all walks of a knot that meet each crossing once below and once above, by
// turns. They begin below, and crossings are numbered as they are met there: whatever
// knot goes above and below by turns, one of its walks is among these.
func alternating(crosses int) [][]api.Visit {
	var walks [][]api.Visit
	for _, above := range orders(crosses) {
		var walk []api.Visit
		for below, k := range above {
			walk = append(walk, api.Visit{Cross: below}, api.Visit{Cross: k, Over: true})
		}
		walks = append(walks, walk)
	}
	return walks
}

// orders of the numbers from 0 on, below n.
func orders(n int) [][]int {
	if n == 0 {
		return [][]int{{}}
	}
	var all [][]int
	for _, order := range orders(n - 1) {
		for at := range n {
			var longer []int
			longer = append(longer, order[:at]...)
			longer = append(longer, n-1)
			longer = append(longer, order[at:]...)
			all = append(all, longer)
		}
	}
	return all
}
