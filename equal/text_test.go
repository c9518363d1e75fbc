package equal_test

import (
	"math"
	"math/big"
	"math/rand"
	"regexp"
	"strconv"
	"strings"
	"testing"

	"sortes/api"
	"sortes/equal"
)

// P6.3

// edges are the numbers of proofs at the borders: of the digits, of the group, and of the ints.
func edges() []int {
	l := []int{0, 9, 10, 99, 100, 12, 123, 1<<31 - 1, 1 << 32, q - 1, q, p, 1e18, math.MaxInt - 1, math.MaxInt}
	for _, n := range l {
		l = append(l, -n)
	}
	return append(l, math.MinInt, math.MinInt+1)
}

// numeral is a number as it is printed in decimal.
var numeral = regexp.MustCompile(`^(0|-?[1-9][0-9]*)$`)

// find returns by the words of the chapter the proof of a text.
func find(s string) (api.Proof, bool) {
	parts := strings.Split(s, ".")
	if len(parts) != 2 {
		return api.Proof{}, false
	}
	var numbers [2]int
	for i, part := range parts {
		n, _ := new(big.Int).SetString(part, 10)
		if !numeral.MatchString(part) || !n.IsInt64() {
			return api.Proof{}, false
		}
		numbers[i] = int(n.Int64())
	}
	return api.Proof{C: numbers[0], Z: numbers[1]}, true
}

// unread fails unless Read finds no proof in s.
func unread(t *testing.T, s string) {
	t.Helper()
	if y, ok := equal.Read(s); ok || y != (api.Proof{}) {
		t.Fatalf("Read(%s) = %v, %t, not the zero proof and false", short(s), y, ok)
	}
}

func TestText(t *testing.T) {
	for _, c := range edges() {
		for _, z := range edges() {
			text, want := equal.Text(api.Proof{C: c, Z: z}), large(c).String()+"."+large(z).String()
			if text != want {
				t.Fatalf("Text({%d, %d}) = %s, not %s", c, z, text, want)
			}
			if y, ok := equal.Read(want); !ok || y != (api.Proof{C: c, Z: z}) {
				t.Fatalf("Read(%s) = %v, %t", want, y, ok)
			}
		}
	}
}

func TestReadNothing(t *testing.T) {
	for _, s := range []string{
		"", ".", "..", "...", "0", "1", "12", "-3", "12.", ".3", "12..3", "12.3.", ".12.3", "12.3.4", "0.0.0", "1.2.3.4",
		"012.3", "12.03", "00.0", "0.00", "-01.2", "1.-02", "0012.0003",
		"+12.3", "12.+3", "-0.1", "1.-0", "-0.-0", "--1.2", "1.--2", "+-1.2", "-.2", "1.-", "+.2", "-1.+2", "1-.2", "1.2-",
		" 12.3", "12.3 ", "12 .3", "12. 3", "12 3", " ", " . ", "12.3\n", "\n12.3", "12\t.3", "1 2.3", "12.3\r\n", "\u00a012.3",
		"12,3", "12:3", "12/3", "12;3", "12-3", "12e1.3", "1e2.3", "0x12.3", "0b1.0", "0o7.1", "1_2.3", "12.3_4", "a.b", "12.b", "a.3", "12.3a", "a12.3", "1a2.3",
		"\u0661\u0662.\u0663", "\uff11\uff12.\uff13", "12\uff0e3", "12\u00b73", "\x0012.3", "12.3\x00", "12\x00.3", "12.\x003", "\xff.\xff", "\u221212.3", "nil.0", "{12 3}", "(12.3)", "\"12.3\"",
		"9223372036854775808.0", "0.9223372036854775808", "-9223372036854775809.0", "0.-9223372036854775809", "18446744073709551615.0", "0.18446744073709551616", "18446744073709551628.3", "99999999999999999999.99999999999999999999", "-99999999999999999999.1",
	} {
		if _, ok := find(s); ok {
			t.Fatalf("the words of the chapter find a proof in %q", s)
		}
		unread(t, s)
	}
	for _, long := range []string{strings.Repeat("1", 100000), strings.Repeat("0", 100000) + "1", strings.Repeat(" ", 100000), strings.Repeat(".", 100000), strings.Repeat("-", 100000), strings.Repeat("a", 100000)} {
		for _, s := range []string{long, long + ".1", "1." + long, long + "." + long} {
			unread(t, s)
		}
	}
}

// TestReadChanged changes texts, of which some stay texts of proofs.
func TestReadChanged(t *testing.T) {
	r := rand.New(rand.NewSource(5))
	l := edges()
	signs := "0123456789.-+ _eax\x00\n"
	found := 0
	for range 30000 {
		text := strconv.Itoa(one(r, l)) + "." + strconv.Itoa(some(r))
		for range r.Intn(3) {
			at, c := r.Intn(len(text)), string(signs[r.Intn(len(signs))])
			switch r.Intn(3) {
			case 0:
				text = text[:at] + c + text[at:]
			case 1:
				text = text[:at] + c + text[at+1:]
			case 2:
				text = text[:at] + text[at+1:]
			}
		}
		want, ok := find(text)
		if y, read := equal.Read(text); read != ok || y != want {
			t.Fatalf("Read(%q) = %v, %t, not %v, %t", text, y, read, want, ok)
		}
		if ok {
			found++
			if back := equal.Text(want); back != text {
				t.Fatalf("Text(%v) = %s, not %s", want, back, text)
			}
		}
	}
	if found < 5000 || found > 25000 {
		t.Errorf("%d of 30000 texts were read", found)
	}
}
