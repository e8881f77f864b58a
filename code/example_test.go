package code_test

import (
	"fmt"

	"knotwork/api"
	"knotwork/code"
)

// README.md's example.
func Example() {
	d, _ := code.Read("X-[1,4,2,5] X-[3,6,4,1]\nX-[5,2,6,3]")
	faces, _ := code.Faces(d)
	planar, _ := code.Planar(d)
	s, e := code.Show(d)
	fmt.Println(len(faces), planar, s, e == api.OK)
	// Output: 5 true X-[1,4,2,5] X-[3,6,4,1] X-[5,2,6,3] true
}
