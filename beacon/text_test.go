package beacon_test

import (
	"math"
	"math/big"
	"math/rand"
	"regexp"
	"strings"
	"testing"

	"sortes/api"
	"sortes/beacon"
)

// P9.4

// edges are numbers at the borders: of the digits, of the group, and of the ints.
func edges() []int {
	l := []int{0, 9, 10, 99, 100, 12, 60, 61, 1 << 32, q - 1, q, p - 1, p, 1e18, math.MaxInt - 1, math.MaxInt}
	for _, n := range l {
		l = append(l, -n)
	}
	return append(l, math.MinInt, math.MinInt+1)
}

// numeral is a number as it is printed in decimal.
var numeral = regexp.MustCompile(`^(0|-?[1-9][0-9]*)$`)

// find returns by the words of the chapter the partial of a text.
func find(s string) (api.Partial, bool) {
	parts := strings.Split(s, " ")
	if len(parts) != 4 {
		return api.Partial{}, false
	}
	var l [4]int
	for i, part := range parts {
		n, _ := new(big.Int).SetString(part, 10)
		if !numeral.MatchString(part) || !n.IsInt64() {
			return api.Partial{}, false
		}
		l[i] = int(n.Int64())
	}
	return api.Partial{X: l[0], Value: l[1], Proof: api.Proof{C: l[2], Z: l[3]}}, true
}

// printed fails unless Text prints y as the words of the chapter want, and Read reads it.
func printed(t *testing.T, y api.Partial) {
	t.Helper()
	if got, want := beacon.Text(y), text(y); got != want {
		t.Fatalf("Text(%v) = %q, not %q", y, got, want)
	}
	if back, ok := beacon.Read(text(y)); !ok || back != y {
		t.Fatalf("Read(%q) = %v, %t", text(y), back, ok)
	}
}

// unread fails unless Read finds no partial in s.
func unread(t *testing.T, s string) {
	t.Helper()
	if _, ok := find(s); ok {
		t.Fatalf("the words of the chapter find a partial in %s", short(s))
	}
	if y, ok := beacon.Read(s); ok || y != (api.Partial{}) {
		t.Fatalf("Read(%s) = %v, %t, not the zero partial and false", short(s), y, ok)
	}
}

func TestText(t *testing.T) {
	r := rand.New(rand.NewSource(21))
	for _, n := range edges() {
		for _, m := range edges() {
			printed(t, api.Partial{X: n, Value: m, Proof: api.Proof{C: one(r, edges()), Z: one(r, edges())}})
			printed(t, api.Partial{X: one(r, edges()), Value: one(r, edges()), Proof: api.Proof{C: n, Z: m}})
		}
	}
	for range 2000 {
		printed(t, api.Partial{X: some(r), Value: some(r), Proof: api.Proof{C: some(r), Z: some(r)}})
	}
	for _, x := range []struct {
		y    api.Partial
		want string
	}{
		{api.Partial{}, "0 0 0 0"},
		{api.Partial{X: 1, Value: 2, Proof: api.Proof{C: 3, Z: 4}}, "1 2 3 4"},
		{api.Partial{X: -1, Value: -20, Proof: api.Proof{C: -300, Z: math.MinInt}}, "-1 -20 -300 -9223372036854775808"},
		{beacon.Eval(api.Share{X: 4, Y: 13}, 3), "4 1279964239518584 1069613067393261401 714716164347135117"},
	} {
		if got := beacon.Text(x.y); got != x.want {
			t.Errorf("Text(%v) = %q, not %q", x.y, got, x.want)
		}
		if back, ok := beacon.Read(x.want); !ok || back != x.y {
			t.Errorf("Read(%q) = %v, %t", x.want, back, ok)
		}
	}
}

func TestReadNothing(t *testing.T) {
	for _, s := range []string{
		"", " ", "  ", "   ", "    ", "0", "1", "1 2", "1 2 3", "1 2 3 ", "1 2 3  ", " 1 2 3", "1  2 3", "1 2 3 4 5", "0 0 0", "0 0 0 0 0",
		" 1 2 3 4", "1 2 3 4 ", "1  2 3 4", "1 2  3 4", "1 2 3  4", "1 2 3 4 0", "  1 2 3 4", "1 2 3 4  ", "1234",
		"1\t2\t3\t4", "1 2 3 4\n", "\n1 2 3 4", "1 2 3\n4", "1 2 3 4\r\n", "1\u00a02 3 4", "1\u20032 3 4",
		"1,2,3,4", "1.2.3.4", "1 2.3 4", "1 2 3.4", "1/2/3/4", "1;2;3;4", "1-2-3-4", "1 2 3-4",
		"a 2 3 4", "1 b 3 4", "1 2 c 4", "1 2 3 d", "1a 2 3 4", "1 2 3 4a", "0x1 2 3 4", "1 0b1 3 4", "1 2 0o7 4", "1 2 3 1e2", "1_0 2 3 4", "1 2 3 4_0", "1.0 2 3 4", "1 2 3 4.0",
		"\u0661 2 3 4", "1 2 3 \uff14", "\u22121 2 3 4", "\x001 2 3 4", "1 2 3 4\x00", "1 \x002 3 4", "\xff 2 3 4", "{1 2 {3 4}}", "(1 2 3 4)", "\"1 2 3 4\"", "nil 0 0 0",
		"part 1 2 3 4", "1 2 3 4 part",
	} {
		unread(t, s)
	}
	parts := [4]string{"1", "2", "3", "4"}
	for at := range parts {
		for _, bad := range []string{"", "01", "00", "001", "+1", "+0", "-0", "-01", "--1", "+-1", "-+1", "-", "+", "1-", "1+", "- 1", "-00", "9223372036854775808", "-9223372036854775809", "18446744073709551616", "18446744073709551617", "99999999999999999999", "-99999999999999999999", strings.Repeat("1", 1000), strings.Repeat("0", 1000) + "1"} {
			changed := parts
			changed[at] = bad
			unread(t, strings.Join(changed[:], " "))
		}
	}
	for _, long := range []string{strings.Repeat("1", 100000), strings.Repeat("0", 100000), strings.Repeat(" ", 100000), strings.Repeat("-", 100000), strings.Repeat("1 ", 100000), strings.Repeat("a", 100000)} {
		for _, s := range []string{long, long + " 2 3 4", "1 2 3 " + long, "1 " + long + " 3 4", "1 2 3 4" + long, "1 2 3 4 " + long} {
			unread(t, s)
		}
	}
}

// TestReadChanged changes texts, of which some stay texts of partials.
func TestReadChanged(t *testing.T) {
	r := rand.New(rand.NewSource(22))
	signs := "0123456789.-+ _eax\x00\n"
	found, l := 0, edges()
	for range 30000 {
		s := text(api.Partial{X: one(r, l), Value: some(r), Proof: api.Proof{C: one(r, l), Z: some(r)}})
		for range r.Intn(3) {
			at, c := r.Intn(len(s)), string(signs[r.Intn(len(signs))])
			switch r.Intn(3) {
			case 0:
				s = s[:at] + c + s[at:]
			case 1:
				s = s[:at] + c + s[at+1:]
			case 2:
				s = s[:at] + s[at+1:]
			}
		}
		want, ok := find(s)
		if y, read := beacon.Read(s); read != ok || y != want {
			t.Fatalf("Read(%q) = %v, %t, not %v, %t", s, y, read, want, ok)
		}
		if ok {
			found++
			if back := beacon.Text(want); back != s {
				t.Fatalf("Text(%v) = %q, not %q", want, back, s)
			}
		}
	}
	if found < 5000 || found > 25000 {
		t.Errorf("%d of 30000 texts were read", found)
	}
}

// TestReadEachByte puts each byte into each place of a text.
func TestReadEachByte(t *testing.T) {
	s := text(eval(api.Share{X: 10, Y: 7}, 3))
	for at := range s {
		for c := range 256 {
			changed := s[:at] + string([]byte{byte(c)}) + s[at+1:]
			want, ok := find(changed)
			if y, read := beacon.Read(changed); read != ok || y != want {
				t.Fatalf("Read(%q) = %v, %t, not %v, %t", changed, y, read, want, ok)
			}
		}
	}
}
