package wind_test

import (
	"fmt"

	"knotwork/api"
	"knotwork/code"
	"knotwork/wind"
)

// README.md's example.
func Example() {
	d, _ := code.Read("X-[1,4,2,5] X-[3,6,4,1] X-[5,2,6,3]")
	writhe, _ := wind.Writhe(d)
	rings, _ := wind.Circles(d)
	genus, _ := wind.Genus(d)
	hopf, _ := code.Read("X+[4,2,1,3] X+[2,4,3,1]")
	table, e := wind.Linking(hopf)
	fmt.Println(writhe, rings, genus, table, e == api.OK)
	// Output: -3 [[1 5 3] [2 6 4]] 1 [[0 1] [1 0]] true
}
