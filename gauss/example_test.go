package gauss_test

import (
	"fmt"

	"knotwork/api"
	"knotwork/code"
	"knotwork/gauss"
)

// README.md's example.
func Example() {
	d, _ := code.Read("X-[1,4,2,5] X-[3,6,4,1] X-[5,2,6,3]")
	strands, _ := gauss.Strands(d)
	visits, plus, _ := gauss.Gauss(d)
	again, _ := gauss.Build(visits, plus, d.Loops)
	s, _ := code.Show(again)
	numbers, e := gauss.Dowker(d)
	fmt.Println(strands, visits, s, numbers, e == api.OK)
	// Output: [[1 2 3 4 5 6]] [[{0 false} {2 true} {1 false} {0 true} {2 false} {1 true}]] X-[1,4,2,5] X-[3,6,4,1] X-[5,2,6,3] [-4 -6 -2] true
}
