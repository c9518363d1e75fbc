package nat_test

import (
	"math/big"
	"math/rand"
	"strings"
	"testing"

	"sortes/api"
	"sortes/nat"
)

// P1.5

// printed checks Text and Parse with one number.
func printed(t *testing.T, a api.Nat) {
	t.Helper()
	want := value(a).String()
	if got := nat.Text(a); got != want {
		t.Fatalf("Text(%x) = %s, not %s", string(a), got, want)
	}
	got, ok := nat.Parse(want)
	if !ok {
		t.Fatalf("Parse(%s) is not possible", want)
	}
	equal(t, got, value(a), "Parse "+want)
}

func TestText(t *testing.T) {
	for n := range 3000 {
		printed(t, nat.Of(n))
	}
	ten := big.NewInt(1)
	for range 150 { // zeros inside, in pieces of any length
		for d := range int64(12) {
			printed(t, from(new(big.Int).Add(ten, big.NewInt(d))))
			printed(t, from(new(big.Int).Mul(ten, big.NewInt(d+1))))
			printed(t, from(new(big.Int).Abs(new(big.Int).Sub(ten, big.NewInt(d)))))
		}
		ten = new(big.Int).Mul(ten, big.NewInt(10))
	}
	r := rand.New(rand.NewSource(8))
	for range 5000 {
		printed(t, long(r, 60))
	}
	for _, a := range []api.Nat{"", "\x00", zeros(20), "\x00\x07", zeros(20) + repeat(255, 20), repeat(255, 8), "\x01" + zeros(8)} {
		printed(t, a)
	}
}

func TestParseNumerals(t *testing.T) {
	r := rand.New(rand.NewSource(9))
	for n := 1; n < 200; n++ {
		digits := make([]byte, n)
		for i := range digits {
			digits[i] = "0123456789000999"[r.Intn(16)]
		}
		digits[0] = "123456789"[r.Intn(9)]
		s := string(digits)
		want, _ := new(big.Int).SetString(s, 10)
		got, ok := nat.Parse(s)
		if !ok || nat.Text(got) != s {
			t.Fatalf("Parse(%s) = %x, %t", s, string(got), ok)
		}
		equal(t, got, want, "Parse "+s)
	}
}

func TestParseNothing(t *testing.T) {
	for _, s := range []string{
		"", "00", "01", "007", "0000000000000000000000001", "-1", "-0", "+1", "+0", "+", "-",
		" ", " 1", "1 ", "1\n", "\t1", "1 2", "1_000", "1,000", "1.0", "1.", ".5", "1e3", "0x10", "0b1", "0o7", "x", "ff", "1a",
		"\x00", "1\x00", "\x001", "/", ":", "1/", "1:", "/1", ":1", "\x01", "\xff", "1\xff",
		"\u0663", "\uff11", "1\u0663", "\u00bd", "\u00b2", "1/2", "Inf", "nil",
	} {
		got, ok := nat.Parse(s)
		if nothing(t, got, ok, "Parse "+s); t.Failed() {
			return
		}
	}
	numeral := strings.Repeat("1234567890", 7)
	for i := range len(numeral) { // one byte that is no digit, anywhere
		for _, c := range []string{"/", ":", " ", "a", "-", "\x00", "\xb1", "\u0661"} {
			s := numeral[:i] + c + numeral[i+1:]
			got, ok := nat.Parse(s)
			nothing(t, got, ok, "Parse "+s)
		}
		s := strings.Repeat("0", i+1) + numeral
		got, ok := nat.Parse(s)
		nothing(t, got, ok, "Parse "+s)
	}
}
