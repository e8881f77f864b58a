package canon_test

import (
	"fmt"

	"knotwork/api"
	"knotwork/canon"
	"knotwork/code"
)

// README.md's example.
func Example() {
	d, _ := code.Read("X-[1,4,2,5] X-[3,6,4,1] X-[5,2,6,3]")
	form, _ := canon.Canon(d)
	mirrored, _ := canon.Mirror(d)
	reversed, _ := canon.Reverse(d, 0)
	asMirrored, _ := canon.Same(d, mirrored)
	asReversed, _ := canon.Same(d, reversed)
	square, e := canon.Sum(d, 1, mirrored, 6)
	for _, x := range []api.Diagram{form, mirrored, reversed, square} {
		s, _ := code.Show(x)
		fmt.Println(s)
	}
	fmt.Println(asMirrored, asReversed, e == api.OK)
	// Output:
	// X-[1,2,3,4] X-[5,6,2,1] X-[4,3,6,5]
	// X+[4,2,5,1] X+[6,4,1,3] X+[2,6,3,5]
	// X-[2,5,1,4] X-[4,1,3,6] X-[6,3,5,2]
	// X-[12,4,2,5] X-[3,6,4,1] X-[5,2,6,3] X+[10,8,11,7] X+[1,10,7,9] X+[8,12,9,11]
	// false true true
}
