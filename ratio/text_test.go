package ratio_test

import (
	"math/big"
	"strings"
	"testing"

	"sortes/api"
	"sortes/ratio"
)

// P2.6

func TestText(t *testing.T) {
	printed := func(a api.Rat) {
		t.Helper()
		want := value(a).RatString()
		if got := ratio.Text(a); got != want {
			t.Fatalf("Text(%s) = %s, not %s", show(a), got, want)
		}
		got, ok := ratio.Parse(want)
		if equal(t, got, value(a), "Parse "+want); !ok {
			t.Fatalf("Parse(%s) is not possible", want)
		}
	}
	for _, a := range lot() {
		printed(a)
	}
	pairs(func(a, b api.Rat) {
		printed(a)
		printed(b)
	})
}

func TestParseNothing(t *testing.T) {
	for _, s := range []string{
		"", "-", "/", "-/", "--", "//", "-0", "0/1", "-0/1", "0/0", "0/5", "-0/5", "00", "-00", "01", "-01", "1/0", "-1/0", "5/0", "1/00", "1/02", "01/2", "-01/2",
		"3/1", "-3/1", "1/1", "6/4", "-6/4", "2/2", "4/2", "2/4", "1000/10", "/2", "-/2", "1/", "-1/", "1//2", "1/2/3", "1/2/", "/1/2",
		"--1", "---1", "1-", "1/-2", "-1/-2", "1/+2", "+1", "+1/2", "-+1", "+-1", "- 1", "-1 /2", "1 /2", "1/ 2", " 1", "1 ", " 1/2", "1/2 ", "1/2\n", "\t1/2",
		"1.5", "1,5", "1e3", "1_0", "0x10", "0x1/2", "x", "a/b", "1/b", "a/2", "1:2", "1\\2", "1/2x", "x1/2", "1\x00", "\x001", "1/2\x00", "\u2212" + "1", "\u00bd", "1\u20442", "\u0663", "1/\u0663",
		"Inf", "-Inf", "NaN", "nil", "0/-1", "-0.0", "1/3 1/3", "6/4/1",
		strings.Repeat("9", 100) + "/" + strings.Repeat("3", 100), strings.Repeat("0", 100), "1/" + strings.Repeat("0", 100),
	} {
		got, ok := ratio.Parse(s)
		if nothing(t, got, ok, "Parse "+s); t.Failed() {
			return
		}
	}
}

// isText reports whether s is the Text of a number.
func isText(s string) bool {
	v, ok := new(big.Rat).SetString(s)
	return ok && v.RatString() == s
}

// TestParseTexts tries all texts of a few signs.
func TestParseTexts(t *testing.T) {
	texts := []string{""}
	for n := 0; n < len(texts); n++ {
		s := texts[n]
		a, ok := ratio.Parse(s)
		switch {
		case ok != isText(s):
			t.Fatalf("Parse(%s) answers %t", s, ok)
		case !ok:
			nothing(t, a, ok, "Parse "+s)
		case !right(a) || value(a).RatString() != s:
			t.Fatalf("Parse(%s) = %s", s, show(a))
		}
		if len(s) < 6 {
			for _, c := range "0126-/ " {
				texts = append(texts, s+string(c))
			}
		}
	}
}
