package sign_test

import (
	"fmt"

	"knotwork/api"
	"knotwork/code"
	"knotwork/sign"
)

// README.md's example.
func Example() {
	d, _ := code.Read("X-[1,4,2,5] X-[3,6,4,1] X-[5,2,6,3]")
	shades, _ := sign.Shades(d)
	table, correction, _ := sign.Goeritz(d, 0)
	signature, _ := sign.Signature(d)
	arf, e := sign.Arf(d)
	fmt.Println(shades, table, correction, signature, arf, e == api.OK)
	// Output: [0 1 1 0 1] [[3 -3] [-3 3]] 3 -2 1 true
}
