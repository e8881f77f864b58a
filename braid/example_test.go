package braid_test

import (
	"fmt"

	"knotwork/api"
	"knotwork/braid"
)

// README.md's example.
func Example() {
	ends, _ := braid.Ends(3, []int{1, 2})
	texts, _ := braid.Act(3, []int{1, 2})
	power, factors, _ := braid.Normal(3, []int{-1})
	same, e := braid.Equal(3, []int{1, 2, 1}, []int{2, 1, 2})
	fmt.Println(ends)
	fmt.Println(texts)
	fmt.Println(power, factors)
	fmt.Println(same, e == api.OK)
	// Output:
	// [3 1 2]
	// [[1 2 -1] [1 3 -1] [1]]
	// -1 [[3 1 2]]
	// true true
}
