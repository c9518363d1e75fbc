package beacon

import (
	"strconv"
	"strings"

	"sortes/api"
)

// Text returns X, Value, C and Z in decimal, with one blank between each two.
func Text(p api.Partial) string {
	return strconv.Itoa(p.X) + " " + strconv.Itoa(p.Value) + " " + strconv.Itoa(p.Proof.C) + " " + strconv.Itoa(p.Proof.Z)
}

// Read returns the partial whose Text is s, and true; the zero partial and false, if there is none.
func Read(s string) (api.Partial, bool) {
	rest := s
	next := func() int {
		first, behind, _ := strings.Cut(rest, " ")
		rest = behind
		// What Atoi refuses, and what it takes although Text does not print it, such as 012, +12 and -0, is 0 or another number, whose Text is not s.
		n, _ := strconv.Atoi(first)
		return n
	}
	var p api.Partial
	p.X = next()
	p.Value = next()
	p.Proof.C = next()
	p.Proof.Z = next()
	if Text(p) == s {
		return p, true
	}
	return api.Partial{}, false
}
