package moves_test

import (
	"fmt"

	"knotwork/api"
	"knotwork/code"
	"knotwork/moves"
)

// README.md's example.
func Example() {
	d, _ := code.Read("X-[1,4,2,5] X-[3,6,4,1] X-[5,2,6,3]")
	curled, _ := moves.Do(d, api.Move{Kind: api.Curl, At: 3, By: 2})
	pushed, done, e := moves.Row(curled, []api.Move{
		{Kind: api.Push, U: api.Dart{Arc: 1}, V: api.Dart{Arc: 5}, Over: true},
		{Kind: api.Uncurl, At: 3},
		{Kind: api.Uncurl, At: 0},
	})
	simple, taken, _ := moves.Simple(pushed)
	for _, x := range []api.Diagram{curled, pushed, simple} {
		s, _ := code.Show(x)
		fmt.Println(s)
	}
	fmt.Println(done, e == api.ErrNone, len(taken), taken[0].Kind == api.Pull)
	// Output:
	// X-[1,4,2,5] X-[8,6,4,1] X-[5,2,6,3] X-[7,3,8,7]
	// X-[8,4,2,5] X-[3,6,4,1] X-[10,2,6,3] X+[9,7,10,1] X-[5,7,9,8]
	// X-[1,4,2,5] X-[3,6,4,1] X-[5,2,6,3]
	// 2 true 1 true
}
