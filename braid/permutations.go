package braid

import "slices"

// A permutation braid is told by its ends: for each place the one at which the strand ends that begins there;
// or by its begins: for each place the one at which the strand begins that ends there.

// places from 1 to n: what no letter tells.
func places(n int) []int {
	l := make([]int, n)
	for i := range n {
		l[i] = i + 1
	}
	return l
}

// delta: each two strands change places; its ends are its begins.
func delta(n int) []int {
	l := places(n)
	slices.Reverse(l)
	return l
}

// turnedRound: ends of begins, or begins of ends.
func turnedRound(l []int) []int {
	other := make([]int, len(l))
	for i, place := range l {
		other[place-1] = i + 1
	}
	return other
}

// trade what stands at the places i and i + 1: with ends the letter i comes or goes ahead of the braid, with begins behind it.
func trade(l []int, i int) { l[i-1], l[i] = l[i], l[i-1] }

// traded: do the strands at the places i and i + 1 change places? With ends, those that begin there; with begins, those that end there.
func traded(l []int, i int) bool { return l[i-1] > l[i] }

// passed by Delta: what it becomes on Delta's other side, each letter i the letter n - i.
func passed(ends []int) []int {
	n := len(ends)
	other := make([]int, n)
	for i, place := range ends {
		other[n-1-i] = n + 1 - place
	}
	return other
}
