// Package moved: what moves and other changes make of diagrams, for the tests of the layers above them. The program itself does not use it.
package moved

import (
	"slices"

	"knotwork/api"
	"knotwork/code"
	"knotwork/gauss"
	"knotwork/moves"
	"knotwork/samples"
)

// Ones: many diagrams on a sphere: braids' closures with parts that run against one another, what moves make of them, several pieces, loops.
func Ones() []api.Diagram {
	die := samples.Die(61)
	l := samples.FlatOnes()
	for i := range 300 {
		d := Turned(&die, samples.Woven(&die, 9))
		for range i % 4 {
			d = Once(&die, d)
		}
		if i%5 == 0 && len(d.Crosses) <= api.MaxCross-3 {
			d = samples.Beside(d, samples.Woven(&die, 3))
		}
		l = append(l, samples.Renamed(&die, d))
	}
	for _, d := range l {
		if planar, e := code.Planar(d); !planar || e != api.OK {
			panic("a diagram lies on no sphere")
		}
	}
	return l
}

// UpTo: diagrams of at most so many crossings: those of Ones, some of just as many, and some with two rings that lie upon all others.
func UpTo(most int) []api.Diagram {
	l := slices.DeleteFunc(Ones(), func(d api.Diagram) bool { return len(d.Crosses) > most })
	die := samples.Die(81)
	for range 60 {
		var word []int
		for range most {
			word = append(word, []int{1, -2, 1, -2, 1, -2, -1, 2}[die.Below(8)])
		}
		l = append(l, samples.Renamed(&die, Turned(&die, samples.Weave(3, word))))
	}
	for range 40 {
		upon := Turned(&die, RingsUpon(2))
		l = append(l, samples.Renamed(&die, Once(&die, Once(&die, upon))))
	}
	return l
}

// Once: a diagram after a move that gives it crossings, if there is room for them.
func Once(die *samples.Die, d api.Diagram) api.Diagram {
	faces, _ := code.Faces(d)
	face := faces[die.Below(len(faces))]
	m := api.Move{Kind: api.Push, U: face[die.Below(len(face))], V: face[die.Below(len(face))], Over: die.Below(2) == 1}
	if m.U.Arc == m.V.Arc {
		m = api.Move{Kind: api.Curl, At: m.U.Arc, By: die.Below(4)}
	}
	if more, e := moves.Do(d, m); e == api.OK {
		return more
	}
	return d
}

// Step: a move, and the diagram to which it leads.
type Step struct {
	api.Move
	To api.Diagram
}

// Steps from a diagram: some of those that give it crossings, the ways of which number chooses; all that take crossings out or slide.
func Steps(d api.Diagram, number int) []Step {
	var l []Step
	for _, m := range some(d, number) {
		if to, e := moves.Do(d, m); e == api.OK {
			l = append(l, Step{m, to})
		}
	}
	return l
}

// some moves, of which not all may be done.
func some(d api.Diagram, number int) []api.Move {
	n := len(d.Crosses)
	l := []api.Move{
		{Kind: api.Curl, By: number % 4}, {Kind: api.Curl, At: 1, By: number % 4},
		{Kind: api.Push, U: api.Dart{Arc: 1}, V: api.Dart{Arc: 2, Back: true}, Over: number%2 == 0}, {Kind: api.Push, U: api.Dart{Arc: 3}, V: api.Dart{Arc: 1}},
	}
	for at := range n {
		l = append(l, api.Move{Kind: api.Uncurl, At: at})
		for by := range n {
			l = append(l, api.Move{Kind: api.Pull, At: at, By: by})
		}
	}
	for at := range 2*n + 2 {
		l = append(l, api.Move{Kind: api.Slide, At: at})
	}
	return l
}

// Curls: a loop with so many curls of one way.
func Curls(n, by int) api.Diagram {
	d, _ := moves.Do(samples.With(1), api.Move{Kind: api.Curl, By: by})
	for range n - 1 {
		d, _ = moves.Do(d, api.Move{Kind: api.Curl, At: 1, By: by})
	}
	return d
}

// CurlsApart: so many rings of one curl, far from one another.
func CurlsApart(count, by int) api.Diagram {
	var d api.Diagram
	for range count {
		d = samples.Beside(d, Curls(1, by))
	}
	return d
}

// RingsUpon: rings that lie upon one ring, and cross it twice each.
func RingsUpon(rings int) api.Diagram {
	parts, plus := make([][]api.Visit, 1+rings), make([]bool, 2*rings)
	for k := range 2 * rings {
		parts[0] = append(parts[0], api.Visit{Cross: k})
		parts[1+k/2] = append(parts[1+k/2], api.Visit{Cross: k, Over: true})
		plus[k] = k%2 == 0
	}
	d, e := gauss.Build(parts, plus, 0)
	if e != api.OK {
		panic(e.Error())
	}
	return d
}

// Beyond: diagrams of more crossings than these, whatever else there is.
func Beyond(most int) []samples.Named {
	var l []samples.Named
	add := func(what string, d api.Diagram) { l = append(l, samples.Named{What: what, Diagram: d}) }
	for n := most + 1; n <= api.MaxCross; n++ {
		for _, plus := range []bool{false, true} {
			add("a chain", samples.Chain(n, plus))
			add("a chain beside loops", samples.Beside(samples.Chain(n, plus), samples.With(api.MaxLoops)))
		}
		for by := range 4 {
			add("curls", Curls(n, by))
			add("curls apart", CurlsApart(n, by))
		}
	}
	great := 0
	for _, d := range Ones() {
		if len(d.Crosses) > most {
			great++
			add("drawn", d)
		}
	}
	if great < 20 {
		panic("too few diagrams have more crossings")
	}
	return l
}
