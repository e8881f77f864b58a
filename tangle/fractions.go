package tangle

import "slices"

// maxP: the greatest p of a fraction that is handed in.
const maxP = 1000

// proper: is it a fraction that may be handed in?
func proper(p, q int) bool {
	if p == 1 && q == 1 {
		return true
	}
	return p <= maxP && 0 < q && q < p && divisor(p, q) == 1
}

// divisor: the greatest one that both have in common.
func divisor(a, b int) int {
	for b != 0 {
		a, b = b, a%b
	}
	return a
}

// fractionOf a list with which nothing is wrong.
func fractionOf(l []int) (p, q int) {
	// A number and 1 over 1/0 is that number, so the first one is as all others. What
	// divides both p and q divided those ahead of the last number, too: of 1/0 only 1 does.
	p, q = 1, 0
	for _, number := range l {
		p, q = number*p+q, p
	}
	if q < 0 || q == 0 && p < 0 {
		p, q = -p, -q
	}
	return p, q
}

// expanded: the list of a fraction that may be handed in.
func expanded(p, q int) []int {
	var l []int
	for q > 0 {
		l = append(l, p/q)
		p, q = q, p%q
	}
	if len(l)%2 == 0 {
		// Behind another number the last one is at least 2: what was left over is less than
		// that by which was divided.
		l[len(l)-1]--
		l = append(l, 1)
	}
	slices.Reverse(l)
	return l
}
