package colour_test

import (
	"fmt"

	"knotwork/api"
	"knotwork/code"
	"knotwork/colour"
)

// README.md's example.
func Example() {
	d, _ := code.Read("X-[1,4,2,5] X-[3,6,4,1] X-[5,2,6,3]")
	over, _ := colour.Overs(d)
	three, _ := colour.Fox(d, 3)
	five, _ := colour.Fox(d, 5)
	nine, e := colour.Count(d, [][]int{{0, 2, 1}, {2, 1, 0}, {1, 0, 2}})
	fmt.Println(over, three, five, nine, e == api.OK)
	// Output: [0 1 1 2 2 0] 2 1 9 true
}
