package poly

import (
	"strconv"
	"strings"

	"knotwork/api"
)

// told: the text of a polynomial that may be handed in.
func told(a []api.Term) string {
	if len(a) == 0 {
		return "0"
	}
	var b strings.Builder
	for i, t := range a {
		b.WriteString(lead(i == 0, t.Coef < 0))
		b.WriteString(body(size(t.Coef), t.Exp))
	}
	return b.String()
}

// lead: what stands ahead of a term.
func lead(first, below bool) string {
	switch {
	case first && below:
		return "-"
	case first:
		return ""
	case below:
		return " - "
	}
	return " + "
}

// body of a term, without its sign.
func body(coef, exp int) string {
	switch {
	case exp == 0:
		return strconv.Itoa(coef)
	case coef == 1:
		return power(exp)
	}
	return strconv.Itoa(coef) + "*" + power(exp)
}

// power of the variable.
func power(exp int) string {
	if exp == 1 {
		return "t"
	}
	return "t^" + strconv.Itoa(exp)
}

// parsed: the terms of a text, as they stand there; ok: it could be read. Each
// text that told writes is read rightly; of others some are read, too.
func parsed(s string) (a []api.Term, ok bool) {
	if s == "0" {
		return nil, true
	}
	s, below := strings.CutPrefix(s, "-")
	for i, word := range strings.Split(s, " ") {
		if i%2 == 1 {
			if word != "+" && word != "-" {
				return nil, false
			}
			below = word == "-"
			continue
		}
		t, ok := parsedTerm(word)
		if !ok {
			return nil, false
		}
		if below {
			t.Coef = -t.Coef
		}
		a = append(a, t)
	}
	return a, true
}

// parsedTerm: a term without its sign.
func parsedTerm(s string) (api.Term, bool) {
	if strings.HasPrefix(s, "t") {
		exp, ok := parsedPower(s)
		return api.Term{Exp: exp, Coef: 1}, ok
	}
	front, back, parted := strings.Cut(s, "*")
	coef, err := strconv.Atoi(front)
	if err != nil {
		return api.Term{}, false
	}
	if !parted {
		return api.Term{Coef: coef}, true
	}
	exp, ok := parsedPower(back)
	return api.Term{Exp: exp, Coef: coef}, ok
}

// parsedPower: the exponent of a power of the variable.
func parsedPower(s string) (int, bool) {
	if s == "t" {
		return 1, true
	}
	digits, ok := strings.CutPrefix(s, "t^")
	if !ok {
		return 0, false
	}
	exp, err := strconv.Atoi(digits)
	return exp, err == nil
}
