package alex_test

import (
	"fmt"

	"knotwork/alex"
	"knotwork/api"
	"knotwork/code"
	"knotwork/poly"
)

// README.md's example.
func Example() {
	d, _ := code.Read("X-[1,4,2,5] X-[3,6,4,1] X-[5,2,6,3]")
	table, _ := alex.Table(d)
	a, _ := alex.Alexander(d)
	s, _ := poly.Text(a)
	det, e := alex.Determinant(d)
	fmt.Println(table[0], s, det, e == api.OK)
	// Output: [[{0 1}] [{1 -1}] [{0 -1} {1 1}]] 1 - t + t^2 3 true
}
