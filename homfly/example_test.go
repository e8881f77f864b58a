package homfly_test

import (
	"fmt"

	"knotwork/api"
	"knotwork/code"
	"knotwork/homfly"
)

// README.md's example.
func Example() {
	d, _ := code.Read("X-[1,4,2,5] X-[3,6,4,1] X-[5,2,6,3]")
	changed, _ := homfly.Change(d, 0)
	smoothed, _ := homfly.Smooth(d, 0)
	a, _ := homfly.Homfly(d)
	b, e := homfly.Conway(d)
	one, _ := code.Show(changed)
	other, _ := code.Show(smoothed)
	fmt.Println(one)
	fmt.Println(other)
	fmt.Println(a, b, e == api.OK)
	// Output:
	// X+[4,2,5,1] X-[3,6,4,1] X-[5,2,6,3]
	// X-[3,4,2,1] X-[1,2,4,3]
	// [{2 0 2} {2 2 1} {4 0 -1}] [{0 1} {2 1}] true
}
