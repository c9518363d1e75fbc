package equal

import (
	"strconv"
	"strings"

	"sortes/api"
)

// Text returns C and Z in decimal, with a point between them.
func Text(p api.Proof) string {
	return strconv.Itoa(p.C) + "." + strconv.Itoa(p.Z)
}

// Read returns the proof whose Text is s, and true; the zero proof and false, if there is none.
func Read(s string) (api.Proof, bool) {
	first, second, _ := strings.Cut(s, ".")
	// What Atoi refuses, and what it takes although Text does not print it, such as 012, +12 and -0, is 0 or another number, whose Text is not s.
	c, _ := strconv.Atoi(first)
	z, _ := strconv.Atoi(second)
	if p := (api.Proof{C: c, Z: z}); Text(p) == s {
		return p, true
	}
	return api.Proof{}, false
}
