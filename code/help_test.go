package code_test

import (
	"testing"

	"knotwork/api"
	"knotwork/code"
)

// read: the diagram of a text, which must be one.
func read(t *testing.T, s string) api.Diagram {
	t.Helper()
	d, e := code.Read(s)
	if e != api.OK {
		t.Fatalf("%q: %v", s, e)
	}
	return d
}
