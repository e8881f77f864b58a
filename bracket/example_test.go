package bracket_test

import (
	"fmt"

	"knotwork/api"
	"knotwork/bracket"
	"knotwork/code"
)

// README.md's example.
func Example() {
	d, _ := code.Read("X-[1,4,2,5] X-[3,6,4,1] X-[5,2,6,3]")
	a, _ := bracket.Bracket(d)
	b, _ := bracket.Jones(d)
	value, e := bracket.At(d, 1)
	fmt.Println(a, b, value, e == api.OK)
	// Output: [{-5 -1} {3 -1} {7 1}] [{4 1} {12 1} {16 -1}] (-1+0i) true
}
