package sign

import (
	"strconv"
	"strings"

	"sortes/api"
)

// Text returns R and S in decimal, with a point between them.
func Text(s api.Sig) string {
	return strconv.Itoa(s.R) + "." + strconv.Itoa(s.S)
}

// Read returns the signature whose Text is s, and true; the zero signature and false, if there is none.
func Read(s string) (api.Sig, bool) {
	first, second, _ := strings.Cut(s, ".")
	// What Atoi refuses, and what it takes although Text does not print it, such as 012, +12 and -0, is 0 or another number, whose Text is not s.
	r, _ := strconv.Atoi(first)
	n, _ := strconv.Atoi(second)
	if sig := (api.Sig{R: r, S: n}); Text(sig) == s {
		return sig, true
	}
	return api.Sig{}, false
}
