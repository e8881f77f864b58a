package tangle_test

import (
	"fmt"

	"knotwork/api"
	"knotwork/code"
	"knotwork/tangle"
)

// README.md's example.
func Example() {
	p, q, _ := tangle.Fraction([]int{2, 1, 1})
	d, _ := tangle.Link([]int{2, 1, 1})
	l, _ := tangle.Expand(5, 2)
	same, e := tangle.Same(5, 3, 5, 2)
	s, _ := code.Show(d)
	fmt.Println(p, q)
	fmt.Println(s)
	fmt.Println(l, same, e == api.OK)
	// Output:
	// 5 3
	// X+[1,7,2,6] X+[5,3,6,2] X-[7,4,8,5] X-[3,8,4,1]
	// [1 1 2] true true
}
