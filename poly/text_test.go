package poly_test

import (
	"slices"
	"strings"
	"testing"

	"knotwork/api"
	"knotwork/poly"
)

// texts: polynomials and what they are told as.
func texts() []struct {
	a []api.Term
	s string
} {
	return []struct {
		a []api.Term
		s string
	}{
		{of(-2, -1, 0, 3, 1, -2, 5, 1), "-t^-2 + 3 - 2*t + t^5"},
		{nil, "0"},
		{of(0, 1), "1"},
		{of(0, -1), "-1"},
		{of(0, 7), "7"},
		{of(0, -10), "-10"},
		{of(1, 1), "t"},
		{of(1, -1), "-t"},
		{of(1, 2), "2*t"},
		{of(1, -2), "-2*t"},
		{of(-1, 1), "t^-1"},
		{of(-1, -3), "-3*t^-1"},
		{of(2, 1), "t^2"},
		{of(10, 20), "20*t^10"},
		{of(-1, 1, 0, 1, 1, 1), "t^-1 + 1 + t"},
		{of(-1, -1, 0, -1, 1, -1), "-t^-1 - 1 - t"},
		{of(0, 1, 1, -1, 2, 1), "1 - t + t^2"},
		{of(0, 1, 1, -3, 2, 1), "1 - 3*t + t^2"},
		{of(-1000, -1000000, 1000, 1000000), "-1000000*t^-1000 + 1000000*t^1000"},
	}
}

// P1.3: what is told.
func TestText(t *testing.T) {
	for _, c := range texts() {
		if s, e := poly.Text(c.a); s != c.s || e != api.OK {
			t.Errorf("Text: %v: %q, %v; wanted: %q", c.a, s, e, c.s)
		}
	}
}

// P1.3: what may not be handed in is not told.
func TestTextForm(t *testing.T) {
	for _, w := range wrongOnes() {
		if s, e := poly.Text(w.a); s != "" || e != api.ErrForm {
			t.Errorf("Text: %s: %q, %v", w.what, s, e)
		}
	}
}

// P1.4: what is read.
func TestRead(t *testing.T) {
	for _, c := range texts() {
		a, e := poly.Read(c.s)
		check(t, "Read: "+c.s, a, e, c.a)
	}
}

// P1.4: what Text tells Read reads, up to the limits.
func TestReadOfText(t *testing.T) {
	all := greatOnes()
	d := rolled(19)
	for range 300 {
		all = append(all, named{"drawn", d.poly(9)})
	}
	for _, g := range all {
		s, e := poly.Text(g.a)
		if e != api.OK || len(s) > api.MaxText {
			t.Fatalf("Text: %s: %q, %v", g.what, s, e)
		}
		a, e := poly.Read(s)
		check(t, "Read: "+s, a, e, g.a)
	}
}

// P1.4: a text that is too long; just not too long it is looked at.
func TestReadSize(t *testing.T) {
	for _, letter := range []string{"0", "1", "t", " ", "-", "\x00", "\xff"} {
		a, e := poly.Read(strings.Repeat(letter, api.MaxText))
		refused(t, "Read: as long as may be: "+letter, a, e, api.ErrForm)
		a, e = poly.Read(strings.Repeat(letter, api.MaxText+1))
		refused(t, "Read: too long: "+letter, a, e, api.ErrSize)
	}
	long := "1" + strings.Repeat(" + t", 500)
	a, e := poly.Read(long[:api.MaxText])
	refused(t, "Read: as long as may be", a, e, api.ErrForm)
	a, e = poly.Read(long)
	refused(t, "Read: too long", a, e, api.ErrSize)
	a, e = poly.Read(strings.Repeat("é", api.MaxText/2+1))
	refused(t, "Read: too many bytes, though not letters", a, e, api.ErrSize)
}

// P1.4: texts that Text would not write.
func TestReadForm(t *testing.T) {
	for _, s := range []string{
		"", " ", "-", "+", "*", "^", "t^", "t*", "*t", "x", "T", "2x",
		"-0", "+0", "00", "+1", "01", "-01", "--1", "- 1", "1 ", " 1", "1.0", "1e3", "0x1", "1_0", "١",
		"1*t", "-1*t", "0*t", "2t", "2 * t", "2*t^1", "t^1", "t^0", "2*t^0", "t^+2", "t^02", "t^-0", "t^--1", "t ^2", "t^ 2", "t^2.0", "t^t", "t2", "tt", "t*t", "t*2", "2*2", "2*3*t", "+t", "-+t", "2*-t", "2*", "2*t^",
		"1 + 0", "0 + 1", "0 + t", "1 - 0", "0 0", "1 + 1", "t + t", "t + 1", "t^2 + t", "1 + t + t^-1", "t - t",
		"1+t", "1 +t", "1+ t", "1  + t", "1 +  t", "1 + t ", "1 + ", "1 +", "+ 1", "1 + -t", "1 - -t", "1 * t", "1 + + t", "1 t", "1\t+ t", "1 + t\n", "1 + t\x00", "1 + 2*", "1 + 1*t",
		"1000001", "-1000001", "t^1001", "t^-1001", "2*t^1001", "1000001*t",
		"9223372036854775807", "9223372036854775808", "-9223372036854775808", "18446744073709551617", "t^9223372036854775808", "t^18446744073709551617", "99999999999999999999999*t",
	} {
		a, e := poly.Read(s)
		refused(t, "Read: "+s, a, e, api.ErrForm)
	}
}

// P1.4: as many terms as may be are read, one more is not.
func TestReadTerms(t *testing.T) {
	s, _ := poly.Text(row(api.MaxTerms, 0, 1))
	a, e := poly.Read(s)
	check(t, "Read: as many terms as may be", a, e, row(api.MaxTerms, 0, 1))
	a, e = poly.Read(s + " + t^64")
	refused(t, "Read: one term more", a, e, api.ErrForm)
}

// P1.4: texts with a byte changed, lost or doubled: what is read is told as the same text.
func TestReadSpoilt(t *testing.T) {
	d := rolled(23)
	bytes := []byte("0129t^*+- x")
	for range 4000 {
		whole, _ := poly.Text(d.poly(6))
		at, by := d.Below(len(whole)), bytes[d.Below(len(bytes))]
		s := []byte(whole)
		switch d.Below(3) {
		case 0:
			s[at] = by
		case 1:
			s = slices.Delete(s, at, at+1)
		case 2:
			s = slices.Insert(s, at, by)
		}
		a, e := poly.Read(string(s))
		if e != api.OK {
			refused(t, "Read: "+string(s), a, e, api.ErrForm)
			continue
		}
		if again, f := poly.Text(a); again != string(s) || f != api.OK {
			t.Errorf("Read: %q: %v, which is %q, %v", s, a, again, f)
		}
	}
}
