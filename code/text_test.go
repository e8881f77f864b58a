package code_test

import (
	"slices"
	"strings"
	"testing"

	"knotwork/api"
	"knotwork/code"
	"knotwork/samples"
)

// P2.4: texts that Show tells.
func TestShow(t *testing.T) {
	for _, x := range []struct {
		d    api.Diagram
		want string
	}{
		{samples.Trefoil(), "X-[1,4,2,5] X-[3,6,4,1] X-[5,2,6,3]"},
		{samples.With(1), "O"},
		{samples.With(3), "O O O"},
		{samples.With(0, api.Cross{A: 1, B: 1, C: 2, D: 2, Plus: true}), "X+[1,1,2,2]"},
		{samples.With(2, api.Cross{A: 1, B: 2, C: 2, D: 1}), "X-[1,2,2,1] O O"},
		{samples.Weave(3, []int{1, -2}), "X+[3,2,1,1] X-[2,4,4,3]"},
		{samples.With(api.MaxLoops), strings.TrimSuffix(strings.Repeat("O ", api.MaxLoops), " ")},
	} {
		if s, e := code.Show(x.d); e != api.OK || s != x.want {
			t.Errorf("%v: %q, %v; wanted: %q", x.d, s, e, x.want)
		}
	}
	long, _ := code.Show(samples.Chain(api.MaxCross, true))
	if !strings.Contains(long, "X+[10,12,11,9] ") || strings.Count(long, "X") != api.MaxCross {
		t.Error(long)
	}
}

// P2.4: what is shown is read again.
func TestShownIsRead(t *testing.T) {
	l := samples.DrawnOnes()
	for _, x := range samples.RightOnes() {
		l = append(l, x.Diagram)
	}
	for _, d := range l {
		s, e := code.Show(d)
		got, f := code.Read(s)
		if e != api.OK || f != api.OK || !samples.Alike(got, d) {
			t.Fatal(d, s, e, got, f)
		}
	}
}

// curls: two crossings of one piece each, and two loops.
func curls() api.Diagram {
	return samples.With(2, api.Cross{A: 1, B: 1, C: 2, D: 2, Plus: true}, api.Cross{A: 3, B: 4, C: 4, D: 3})
}

// P2.4: parts in any order, parted by any of the bytes, one or several; numbers of one digit to three.
func TestRead(t *testing.T) {
	for _, s := range []string{
		"X+[1,1,2,2] X-[3,4,4,3] O O",
		"O X+[1,1,2,2] O X-[3,4,4,3]",
		"O O X+[1,1,2,2] X-[3,4,4,3]",
		"X+[1,1,2,2]\tX-[3,4,4,3]\nO\rO",
		"X+[1,1,2,2]  X-[3,4,4,3]\r\n\r\nO \t\n\rO",
		" X+[1,1,2,2] X-[3,4,4,3] O O",
		"X+[1,1,2,2] X-[3,4,4,3] O O\n",
		"\r\n\t X+[1,1,2,2] X-[3,4,4,3] O O\n\n",
		"X+[01,1,02,2] X-[003,04,004,3] O O",
		"X+[001,001,002,002] X-[003,004,004,003] O O",
	} {
		if got := read(t, s); !samples.Alike(got, curls()) {
			t.Errorf("%q: %v", s, got)
		}
	}
	if d := read(t, "X-[3,4,4,3] X+[1,1,2,2]"); d.Crosses[0] != (api.Cross{A: 3, B: 4, C: 4, D: 3}) || d.Loops != 0 {
		t.Error("the order of the crossings has changed:", d)
	}
}

// P2.4: texts of just MaxText bytes are read.
func TestReadOfMuch(t *testing.T) {
	for _, fill := range []string{" ", "\t", "\n", "\r"} {
		s := "X+[1,1,2,2]" + strings.Repeat(fill, api.MaxText-12) + "O"
		if d := read(t, s); len(s) != api.MaxText || d.Loops != 1 || len(d.Crosses) != 1 {
			t.Error(len(s), d)
		}
		if d, e := code.Read(s + "O"); e != api.ErrSize || !samples.Alike(d, api.Diagram{}) {
			t.Error("one byte more:", d, e)
		}
	}
	most := samples.Chain(api.MaxCross, true)
	most.Loops = api.MaxLoops
	s, _ := code.Show(most)
	if d := read(t, s+strings.Repeat("\n", api.MaxText-len(s))); !samples.Alike(d, most) {
		t.Error(d)
	}
}

// without: s, of which each byte in turn is left out.
func without(s string) []string {
	var l []string
	for i := range len(s) {
		l = append(l, s[:i]+s[i+1:])
	}
	return l
}

// P2.4: texts that are not so.
func TestReadForm(t *testing.T) {
	l := []string{
		"o", "x+[1,1,2,2]", "0", "X", "X+", "X-[", "X+[]", "X+[,,,]", "X+1,1,2,2", "X+[1,1,2,2", "X+1,1,2,2]",
		"X[1,1,2,2]", "X*[1,1,2,2]", "X+-[1,1,2,2]", "X++[1,1,2,2]", "+[1,1,2,2]", "[1,1,2,2]", "X+(1,1,2,2)",
		"X+[1,1,2]", "X+[1,1,2,2,3]", "X+[1,1,2,2,]", "X+[,1,1,2,2]", "X+[1,,2,2]", "X+[1,1,2,2]]", "X+[[1,1,2,2]",
		"X+[1;1;2;2]", "X+[1.1.2.2]", "X+[1,1,2,x]", "X+[1,1,2,0x2]", "X+[1,1,2,1e0]", "X+[1,1,2,+2]", "X+[1,1,2,-2]", "X+[-1,1,2,2]",
		"X+[1,1,2,0002]", "X+[0001,1,2,2]", "X+[1,1,2,1000]", "X+[1,1,2,9999]", "X+[1,1,2,99999999999999999999]",
		"X+[1, 1,2,2]", "X+[ 1,1,2,2]", "X+[1,1,2,2 ]", "X +[1,1,2,2]", "X+ [1,1,2,2]", "X+[1,1,\n2,2]",
		"OO", "OX+[1,1,2,2]", "X+[1,1,2,2]O", "X+[1,1,2,2]X+[3,3,4,4]", "X+[1,1,2,2],X+[3,3,4,4]", "O,O", "O;O", "-O", "2O", "O2",
		"O\vO", "O\fO", "O\x00O", "O\x1fO", "O\u0085O", "O\u00a0O", "O\u2028O", "O\u3000O", "O\x85O", "O\xa0O", "O\xff", "\xc0\xa0O", "O\u0420", "О",
		"X+[1,1,2,２]", "X+[1,1,2,٢]", "X+[1,1,2,\u00b2]", "X+[1,1,2,\xb2]", "X−[1,2,2,1]",
		"none", "O O O o", "o O O O",
	}
	for _, s := range without("X+[1,1,2,2]") {
		l = append(l, s)
	}
	for _, s := range l {
		if d, e := code.Read(s); e != api.ErrForm || !samples.Alike(d, api.Diagram{}) {
			t.Errorf("%q: %v, %v", s, d, e)
		}
	}
}

// P2.4: texts that are so, of diagrams that may not be.
func TestReadState(t *testing.T) {
	many, _ := code.Show(samples.Chain(api.MaxCross, true))
	for _, s := range []string{
		"", " ", "\n", " \t\r\n",
		"X+[1,1,2,3]", "X+[0,0,1,1]", "X+[000,000,001,001]", "X+[2,2,3,3]", "X+[999,1,2,2]", "X-[1,1,2,2]", "X+[1,2,2,1]",
		"X+[1,1,2,2] X+[1,1,2,2]", "X-[1,4,2,5] X-[3,6,4,1]", "X+[1,1,1,1]", "X+[1,1,2,2] O X+[3,3,4,5]",
		strings.Repeat("O ", api.MaxLoops+1), strings.Repeat("O ", api.MaxText/2),
		strings.Repeat("X+[1,1,2,2] ", 2*api.MaxCross), many + " X+[33,33,34,34]",
	} {
		if d, e := code.Read(s); e != api.ErrState || !samples.Alike(d, api.Diagram{}) {
			t.Errorf("%q: %v, %v", s, d, e)
		}
	}
}

// P2.4: of several errors the one that is named first is told.
func TestReadErrors(t *testing.T) {
	for _, x := range []struct {
		what, s string
		want    api.Errno
	}{
		{"too long, not so, and it may not be", strings.Repeat("o", api.MaxText+1), api.ErrSize},
		{"too long, and it may not be", strings.Repeat("O ", api.MaxText/2) + "O", api.ErrSize},
		{"too long, of nothing", strings.Repeat(" ", api.MaxText+1), api.ErrSize},
		{"far too long", strings.Repeat("O\n", 1000*api.MaxText), api.ErrSize},
		{"so many bytes, not so", strings.Repeat("o", api.MaxText), api.ErrForm},
		{"so many bytes, and it may not be", strings.Repeat(" ", api.MaxText), api.ErrState},
		{"not so at the end, and it may not be", strings.Repeat("O ", api.MaxLoops+1) + "P", api.ErrForm},
		{"not so at the beginning, and it may not be", "P X+[9,9,9,9]", api.ErrForm},
		{"a number too long, and it may not be", "X+[9,9,9,9] X+[1,1,2,0002]", api.ErrForm},
	} {
		if d, e := code.Read(x.s); e != x.want || !samples.Alike(d, api.Diagram{}) {
			t.Error(x.what, d, e, "wanted:", x.want)
		}
	}
}

// P2.4: whatever byte stands somewhere, the text is read only if it may; what is read, is shown and read again as the same.
func TestReadOfAnyByte(t *testing.T) {
	plain := "O X+[1,1,2,2] O"
	for i := range len(plain) {
		for b := range 256 {
			s := plain[:i] + string([]byte{byte(b)}) + plain[i+1:]
			d, e := code.Read(s)
			if e != api.OK {
				continue
			}
			known := s == plain || slices.Contains([]string{"\t", "\n", "\r", " "}, s[i:i+1])
			shown, f := code.Show(d)
			again, g := code.Read(shown)
			if !known || f != api.OK || g != api.OK || !samples.Alike(again, d) {
				t.Errorf("%q: %v", s, d)
			}
		}
	}
}
