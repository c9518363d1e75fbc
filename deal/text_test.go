package deal_test

import (
	"encoding/hex"
	"math"
	"math/big"
	"math/rand"
	"regexp"
	"strconv"
	"strings"
	"testing"

	"sortes/api"
	"sortes/deal"
)

// P7.7

// numeral is a number as it is printed in decimal.
var numeral = regexp.MustCompile(`^(0|-?[1-9][0-9]*)$`)

// bytesInHex are the bytes of a box as they are printed.
var bytesInHex = regexp.MustCompile(`^([0-9a-f][0-9a-f])*$`)

// find returns by the words of the chapter the dealing of a text.
func find(s string) (api.Dealing, bool) {
	parts := strings.Split(s, " ")
	if len(parts) < 3 || parts[0] != "deal" || !numeral.MatchString(parts[1]) {
		return api.Dealing{}, false
	}
	n, err := strconv.Atoi(parts[1])
	if err != nil || n < 0 || n > len(parts)-3 {
		return api.Dealing{}, false
	}
	var l []int
	for _, part := range parts[2 : 3+n] {
		number, _ := new(big.Int).SetString(part, 10)
		if !numeral.MatchString(part) || !number.IsInt64() {
			return api.Dealing{}, false
		}
		l = append(l, int(number.Int64()))
	}
	d := api.Dealing{Commits: l[:n], Point: l[n]}
	for _, part := range parts[3+n:] {
		b, err := hex.DecodeString(part)
		if err != nil || !bytesInHex.MatchString(part) {
			return api.Dealing{}, false
		}
		d.Boxes = append(d.Boxes, string(b))
	}
	return d, true
}

// read fails unless Read answers as the words of the chapter want, and returns whether it finds a dealing.
func read(t *testing.T, s string) bool {
	t.Helper()
	want, found := find(s)
	got, ok := deal.Read(s)
	if ok != found || !alike(got, want) || !ok && !isZero(got) {
		t.Fatalf("Read(%s) = %s, %t, not %s, %t", short(s), short(text(got)), ok, short(text(want)), found)
	}
	return found
}

// printed fails unless Text prints d as the words of the chapter want, and Read reads it.
func printed(t *testing.T, d api.Dealing) {
	t.Helper()
	if got, want := deal.Text(d), text(d); got != want {
		t.Fatalf("Text is %s, not %s", short(got), short(want))
	}
	if back, ok := deal.Read(text(d)); !ok || !alike(back, d) {
		t.Fatalf("Read(%s) = %s, %t", short(text(d)), short(text(back)), ok)
	}
	if !read(t, text(d)) {
		t.Fatalf("the words of the chapter find no dealing in %s", short(text(d)))
	}
}

// boxes are boxes of all sorts: of all lengths, and of all bytes.
func boxes() []string {
	l := []string{"", "a", "\x00", "\xff", " ", "deal", "0123456789abcdef", strings.Repeat("\x00", 16), strings.Repeat("\xff", 16), strings.Repeat("a", 15), strings.Repeat("a", 17), "\x01\x23\x45\x67\x89\xab\xcd\xef", "\xf0\x0f", "\n", "caf\u00e9", strings.Repeat("xyz", 1000)}
	for b := range 256 {
		l = append(l, string([]byte{byte(b)}), string([]byte{byte(b), byte(255 - b)}))
	}
	return l
}

func TestText(t *testing.T) {
	r := rand.New(rand.NewSource(9))
	for _, l := range lists(r, append(numbers(), members()...)) {
		for range 20 {
			var b []string
			for range r.Intn(6) {
				b = append(b, one(r, boxes()))
			}
			printed(t, api.Dealing{Commits: l, Point: one(r, numbers()), Boxes: b})
		}
	}
	for _, n := range append(numbers(), strangers()...) {
		printed(t, api.Dealing{Point: n})
		printed(t, api.Dealing{Commits: []int{n}})
		printed(t, api.Dealing{Commits: []int{n, 1}, Point: n, Boxes: []string{"", "a"}})
	}
	for _, s := range boxes() {
		printed(t, api.Dealing{Boxes: []string{s}})
		printed(t, api.Dealing{Commits: []int{1}, Point: 1, Boxes: []string{s, "", s, s}})
	}
	for n := range 130 {
		printed(t, api.Dealing{Boxes: make([]string, n)})
		printed(t, api.Dealing{Commits: make([]int, n), Boxes: make([]string, n/2)})
		printed(t, api.Dealing{Commits: make([]int, n), Boxes: []string{strings.Repeat("\x5a", n)}})
	}
	printed(t, api.Dealing{})
	printed(t, api.Dealing{Commits: []int{}, Boxes: []string{}})
}

func TestReadNothing(t *testing.T) {
	for _, s := range []string{
		"", " ", "  ", "deal", "deal ", "deal  ", "deal   ", "deal 0", "deal 0 ", "deal 0  ", "deal 1", "deal 1 4", "deal 1 4 ", "deal 2 4 16", "deal 2 4 16 ", "0 4", "4 4 4",
		"Deal 0 4", "DEAL 0 4", "dea 0 4", "deals 0 4", " deal 0 4", "deal0 4", "deal 0 4\n", "\ndeal 0 4", "deal\t0\t4", "deal\n0 4", "deal\u00a00 4", "ddeal 0 4", "eal 0 4", "other 0 4", " 0 4", "deal deal 0 4", "deal,0,4",
		"deal  0 4", "deal 0  4", "deal 1  4 16", "deal 1 4  16", "deal  1 4 16", "deal 2 4 16  64",
		"deal -1 4", "deal -0 4", "deal +0 4", "deal +1 4 16", "deal -1 4 16", "deal 00 4", "deal 01 4 16", "deal 1.0 4 16", "deal 1e0 4 16", "deal 0x1 4 16", "deal a 4", "deal . 4", "deal 1_0 4", "deal -2 4 16 61",
		"deal 3 4 16 61", "deal 9 4 16 61", "deal 2 4 16 ab", "deal 1 4 ab", "deal 0 ab", "deal 0 4 5", "deal 1 4 16 5 61", "deal 1 4 16 64 102", "deal 0 -4 -4",
		"deal 0 04", "deal 0 00", "deal 0 -0", "deal 0 +4", "deal 0 --4", "deal 0 -", "deal 0 +", "deal 0 4-", "deal 0 -04", "deal 0 4.", "deal 0 4.0", "deal 0 0x4", "deal 0 1_000", "deal 0 1e3", "deal 0 4a", "deal 0 nil",
		"deal 1 04 16", "deal 1 -0 16", "deal 1 +4 16", "deal 1 4 016", "deal 1 4 +16", "deal 1 4 -0", "deal 2 4 016 64", "deal 2 4 +16 64", "deal 1 a 16",
		"deal 0 4 6", "deal 0 4 616", "deal 0 4 61 6", "deal 0 4 6 61", "deal 0 4 6A", "deal 0 4 A6", "deal 0 4 aF", "deal 0 4 Fa", "deal 0 4 FF", "deal 0 4 6g", "deal 0 4 g6", "deal 0 4 gg", "deal 0 4 6-", "deal 0 4 -6", "deal 0 4 -1", "deal 0 4 +1", "deal 0 4 0x", "deal 0 4 x0", "deal 0 4 6 1", "deal 0 4 6\n", "deal 0 4 \n6", "deal 0 4 61\n", "deal 0 4 \t\t", "deal 0 4 61616", "deal 0 4 ::", "deal 0 4 //", "deal 0 4 @@", "deal 0 4 ``", "deal 0 4 \x00\x00", "deal 0 4 \xff\xff", "deal 0 4 \u00e9", "deal 0 4 \uff11\uff12", "deal 0 4 61 \u00e9",
		"deal 0 9223372036854775808", "deal 0 -9223372036854775809", "deal 0 18446744073709551615", "deal 0 18446744073709551620", "deal 1 9223372036854775808 4", "deal 1 4 9223372036854775808", "deal 1 -9223372036854775809 4", "deal 0 99999999999999999999",
		"deal 9223372036854775807 4", "deal 9223372036854775806 4", "deal 9223372036854775808 4", "deal -9223372036854775808 4", "deal -9223372036854775809 4", "deal 18446744073709551616 4", "deal 18446744073709551617 4 16", "deal 99999999999999999999 4", "deal 4294967296 4", "deal 4294967297 4 16",
		"deal \u0661 4 16", "deal 0 \u0664", "deal 0 \u22124", "deal 0 4\x00", "deal 0\x00 4", "deal 0 \"4\"", "{[4] 16 []}",
	} {
		if read(t, s) {
			t.Fatalf("the words of the chapter find a dealing in %q", s)
		}
	}
}

// TestReadSomething holds texts of dealings that are in no form, and look like those above.
func TestReadSomething(t *testing.T) {
	for _, x := range []struct {
		text string
		want api.Dealing
	}{
		{"deal 0 0", api.Dealing{}},
		{"deal 0 0 ", api.Dealing{Boxes: []string{""}}},
		{"deal 0 4  ", api.Dealing{Point: 4, Boxes: []string{"", ""}}},
		{"deal 0 4  61", api.Dealing{Point: 4, Boxes: []string{"", "a"}}},
		{"deal 0 4 61 ", api.Dealing{Point: 4, Boxes: []string{"a", ""}}},
		{"deal 0 4 16 64", api.Dealing{Point: 4, Boxes: []string{"\x16", "d"}}},
		{"deal 1 4 16 64", api.Dealing{Commits: []int{4}, Point: 16, Boxes: []string{"d"}}},
		{"deal 2 4 16 64", api.Dealing{Commits: []int{4, 16}, Point: 64}},
		{"deal 2 -4 0 -64 0a1b", api.Dealing{Commits: []int{-4, 0}, Point: -64, Boxes: []string{"\n\x1b"}}},
		{"deal 1 9223372036854775807 -9223372036854775808", api.Dealing{Commits: []int{math.MaxInt}, Point: math.MinInt}},
		{"deal 0 4 00 ff", api.Dealing{Point: 4, Boxes: []string{"\x00", "\xff"}}},
	} {
		if got, ok := deal.Read(x.text); !ok || !alike(got, x.want) {
			t.Errorf("Read(%q) = %s, %t", x.text, text(got), ok)
		}
		printed(t, x.want)
	}
}

func TestReadLong(t *testing.T) {
	for _, c := range []string{"0", "1", "9", "-", "+", " ", "a", "A", "z", "\x00", "\xff", "61 ", "4 "} {
		long := strings.Repeat(c, 100001)
		for _, s := range []string{long, "deal" + long, "deal " + long, "deal 0 " + long, "deal 0 4 " + long, "deal 1 " + long + " 4", "deal 1 4 " + long, "deal 100001" + long, "deal 100000 " + long, "deal " + long + " 4", "deal 2 4 16 64 " + long + "6"} {
			read(t, s)
		}
	}
}

// TestReadChanged changes texts, of which some stay texts of dealings.
func TestReadChanged(t *testing.T) {
	r := rand.New(rand.NewSource(10))
	signs := []string{"0", "1", "2", "3", "9", "a", "f", "A", "g", "-", "+", " ", " ", "  ", ".", "_", "\x00", "\n", "deal"}
	found := 0
	for range 30000 {
		d := api.Dealing{Point: one(r, numbers())}
		for range r.Intn(4) {
			d.Commits = append(d.Commits, one(r, []int{0, 4, 16, -1, some(r)}))
		}
		for range r.Intn(4) {
			d.Boxes = append(d.Boxes, one(r, []string{"", "a", "\x00\xff", "0123456789abcdef"}))
		}
		s := text(d)
		for range r.Intn(4) {
			at, c := r.Intn(len(s)), one(r, signs)
			switch r.Intn(3) {
			case 0:
				s = s[:at] + c + s[at:]
			case 1:
				s = s[:at] + c + s[at+1:]
			case 2:
				s = s[:at] + s[at+1:]
			}
		}
		if read(t, s) {
			found++
			if d, _ := find(s); deal.Text(d) != s {
				t.Fatalf("Text of what is read of %q is %q", s, deal.Text(d))
			}
		}
	}
	if found < 5000 || found > 25000 {
		t.Errorf("%d of 30000 texts were read", found)
	}
}
