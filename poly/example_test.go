package poly_test

import (
	"fmt"

	"knotwork/api"
	"knotwork/poly"
)

// README.md's example.
func Example() {
	a, _ := poly.Read("-t^-2 + 3 - 2*t + t^5")
	b, _ := poly.Mul(a, []api.Term{{Exp: 2, Coef: -1}})
	s, e := poly.Text(b)
	fmt.Println(s, e == api.OK)
	// Output: 1 - 3*t^2 + 2*t^3 - t^7 true
}
