package closure_test

import (
	"fmt"

	"knotwork/api"
	"knotwork/closure"
	"knotwork/code"
)

// README.md's example.
func Example() {
	d, _ := closure.Close(2, []int{1, 1, 1})
	s, _ := code.Show(d)
	rings, _ := closure.Close(3, []int{2, 2})
	r, _ := code.Show(rings)
	table, e := closure.Burau(2, []int{1})
	fmt.Println(s)
	fmt.Println(r)
	fmt.Println(table, e == api.OK)
	// Output:
	// X+[4,2,5,1] X+[2,6,3,5] X+[6,4,1,3]
	// X+[3,2,4,1] X+[2,3,1,4] O
	// [[[{0 1} {1 -1}] [{1 1}]] [[{0 1}] []]] true
}
