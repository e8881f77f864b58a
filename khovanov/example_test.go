package khovanov_test

import (
	"fmt"

	"knotwork/api"
	"knotwork/code"
	"knotwork/khovanov"
)

// README.md's example.
func Example() {
	d, _ := code.Read("X-[1,4,2,5] X-[3,6,4,1] X-[5,2,6,3]")
	ranks, _ := khovanov.Ranks(d)
	sum, e := khovanov.Euler(d)
	fmt.Println(ranks, sum, e == api.OK)
	// Output: [{-3 -9 1} {-3 -7 1} {-2 -7 1} {-2 -5 1} {0 -3 1} {0 -1 1}] [{-9 -1} {-5 1} {-3 1} {-1 1}] true
}
