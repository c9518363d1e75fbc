package ratio

import (
	"strings"

	"sortes/api"
	"sortes/nat"
)

// Text returns a in decimal: the numerator, with - in front if a is negative, and / and the denominator behind, if that is not 1.
func Text(a api.Rat) string {
	a = valid(a)
	text := nat.Text(a.Num)
	if a.Neg {
		text = "-" + text
	}
	if a.Den != one {
		text += "/" + nat.Text(a.Den)
	}
	return text
}

// Parse returns the right number whose Text is s, and true; false, if there is none.
func Parse(s string) (api.Rat, bool) {
	s, neg := strings.CutPrefix(s, "-")
	above, below, broken := strings.Cut(s, "/")
	num, ok := nat.Parse(above)
	if !ok {
		return api.Rat{}, false
	}
	a := api.Rat{Neg: neg, Num: num, Den: one}
	if broken {
		a.Den, ok = nat.Parse(below)
		// Text prints no denominator 1.
		ok = ok && a.Den != one
	}
	if !ok || !Right(a) {
		return api.Rat{}, false
	}
	return a, true
}
