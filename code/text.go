package code

import (
	"strconv"
	"strings"

	"knotwork/api"
	"knotwork/drawing"
)

// What the parts of a text are made of.
const (
	loop      = "O"
	openPlus  = "X+["
	openMinus = "X-["
	closing   = "]"
	comma     = ","
)

// told: the text of a diagram that may be.
func told(d api.Diagram) string {
	var parts []string
	for _, c := range d.Crosses {
		parts = append(parts, toldCross(c))
	}
	for range d.Loops {
		parts = append(parts, loop)
	}
	return strings.Join(parts, " ")
}

// toldCross: the part that tells of a crossing.
func toldCross(c api.Cross) string {
	open := openMinus
	if c.Plus {
		open = openPlus
	}
	var numbers []string
	for _, arc := range drawing.Arcs(c) {
		numbers = append(numbers, strconv.Itoa(arc))
	}
	return open + strings.Join(numbers, comma) + closing
}

// parsed: the diagram of a text, whether it may be or not; ok: the text has the form of one.
func parsed(s string) (d api.Diagram, ok bool) {
	parting := func(r rune) bool {
		return r == '\t' || r == '\n' || r == '\r' || r == ' '
	}
	for part := range strings.FieldsFuncSeq(s, parting) {
		if part == loop {
			d.Loops++
			continue
		}
		c, ok := parsedCross(part)
		if !ok {
			return api.Diagram{}, false
		}
		d.Crosses = append(d.Crosses, c)
	}
	return d, true
}

// parsedCross: the crossing of which a part tells.
func parsedCross(part string) (api.Cross, bool) {
	inner, plus := strings.CutPrefix(part, openPlus)
	if !plus {
		rest, minus := strings.CutPrefix(part, openMinus)
		if !minus {
			return api.Cross{}, false
		}
		inner = rest
	}
	inner, closed := strings.CutSuffix(inner, closing)
	numbers := strings.Split(inner, comma)
	if !closed || len(numbers) != 4 {
		return api.Cross{}, false
	}
	var arcs [4]int
	for i, s := range numbers {
		arc, ok := number(s)
		if !ok {
			return api.Cross{}, false
		}
		arcs[i] = arc
	}
	return api.Cross{A: arcs[0], B: arcs[1], C: arcs[2], D: arcs[3], Plus: plus}, true
}

// number of one digit to three. (strconv.Atoi would take a sign, too.)
func number(s string) (int, bool) {
	if len(s) < 1 || len(s) > 3 {
		return 0, false
	}
	n := 0
	for _, r := range s {
		if r < '0' || r > '9' {
			return 0, false
		}
		n = 10*n + int(r-'0')
	}
	return n, true
}
