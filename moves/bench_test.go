package moves

import (
	"testing"

	"knotwork/drawing"
	"knotwork/samples"
)

// P5.2: an arc that leads to the place across is no curl. (On a sphere there is none, so no face of the package can be asked.)
func TestCurled(t *testing.T) {
	for _, x := range []struct {
		d    string
		want bool
	}{
		{"X-[1,2,1,2]", false}, {"X+[1,2,1,2]", false}, {"X-[1,2,2,1]", true}, {"X-[2,1,1,2]", true}, {"X+[1,1,2,2]", true}, {"X+[2,2,1,1]", true},
		{"X-[1,3,1,4] X-[2,4,2,3]", false}, {"X+[4,2,1,1] X-[3,2,4,3]", true},
	} {
		w, ok := drawing.Of(samples.OfText(x.d))
		if got := (bench{w}).curled(0); !ok || got != x.want {
			t.Error(x.d, ok, got, "wanted:", x.want)
		}
	}
}
