package table_test

import (
	"fmt"
	"strings"

	"knotwork/api"
	"knotwork/code"
	"knotwork/table"
)

// README.md's example.
func Example() {
	l, e := table.Table(3)
	fmt.Println(strings.Join(l, "\n"), e == api.OK)
	d, _ := code.Read("X+[11,2,1,9] X+[12,4,3,2] X+[3,6,5,1] X-[6,4,8,7] X-[5,7,10,9] X-[10,8,12,11]")
	row, e := table.Seek(d, 5)
	fmt.Println(row, e == api.OK)
	row, e = table.Seek(d, 3)
	fmt.Println(row, e == api.ErrNone)
	// Output:
	// X+[1,2,3,4] X+[5,1,4,6] X+[2,5,6,3]
	// X-[1,2,3,4] X-[5,6,2,1] X-[4,3,6,5] true
	// [{5 0 0 {0 false} {0 false} false} {4 0 3 {0 false} {0 false} false} {4 0 2 {0 false} {0 false} false} {4 0 1 {0 false} {0 false} false}] true
	// [] true
}
