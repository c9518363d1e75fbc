package delay_test

import (
	"math"
	"math/big"
	"math/rand"
	"regexp"
	"strconv"
	"strings"
	"testing"

	"sortes/api"
	"sortes/delay"
)

// P10.5

// numeral is a natural number as it is printed in decimal.
var numeral = regexp.MustCompile(`^(0|[1-9][0-9]*)$`)

// find returns by the words of the chapter the state whose text is s, and whether there is one.
func find(s string) (*model, bool) {
	parts := strings.Split(s, " ")
	if len(parts) != 4 || parts[0] != "work" {
		return nil, false
	}
	var l []*big.Int
	for _, part := range parts[1:] {
		if !numeral.MatchString(part) {
			return nil, false
		}
		l = append(l, decimal(part))
	}
	if l[0].Cmp(l[1]) > 0 || l[1].Cmp(large(most)) > 0 || l[2].Cmp(n) >= 0 {
		return nil, false
	}
	return &model{l[2], int(l[0].Int64()), int(l[1].Int64())}, true
}

// resumed fails unless Resume answers what it does by the words of the chapter, and reports whether there is a state.
func resumed(t *testing.T, s string) bool {
	t.Helper()
	m, ok := find(s)
	w, err := delay.Resume(s)
	if !ok {
		if w != nil || err != api.ErrForm {
			t.Fatalf("Resume(%s) = %q, %d", short(s), w.Save(), err)
		}
		return false
	}
	if w == nil || err != api.OK {
		t.Fatalf("Resume(%s) = nil, %d", short(s), err)
	}
	if w.Save() != s {
		t.Fatalf("Resume(%s) has the text %q", short(s), w.Save())
	}
	same(t, w, m)
	if m.t-m.done < 100 {
		stepped(t, w, m, 1)
		stepped(t, w, m, 100)
	}
	return true
}

func TestSave(t *testing.T) {
	w := delay.New(of(3), 4)
	for _, x := range []struct {
		step int
		want string
	}{
		{0, "work 0 4 3"},
		{1, "work 1 4 9"},
		{2, "work 3 4 6561"},
		{1, "work 4 4 43046721"},
		{1, "work 4 4 43046721"},
	} {
		w.Step(x.step)
		if got := w.Save(); got != x.want {
			t.Errorf("Save is %q, not %q", got, x.want)
		}
		resumed(t, x.want)
	}
	for _, x := range []struct {
		x    api.Nat
		want string
	}{
		{"", "work 0 1048576 0"},
		{"\x00\x00\x07", "work 0 1048576 7"},
		{near(0), "work 0 1048576 0"},
		{near(5), "work 0 1048576 5"},
		{near(-1), "work 0 1048576 183437050444448162921448078311229901656"},
	} {
		if got := delay.New(x.x, most).Save(); got != x.want {
			t.Errorf("Save is %q, not %q", got, x.want)
		}
		resumed(t, x.want)
	}
}

func TestResume(t *testing.T) {
	for _, done := range []int{0, 1, 2, 9, 10, 99, 100, most - 1, most} {
		for _, all := range []int{0, 1, 2, 9, 10, 99, 100, 101, most - 1, most} {
			for _, x := range plain() {
				s := "work " + strconv.Itoa(done) + " " + strconv.Itoa(all) + " " + value(x).String()
				if got := resumed(t, s); got != (done <= all) {
					t.Fatalf("Resume(%q) finds a state: %t", s, got)
				}
			}
		}
	}
	r := rand.New(rand.NewSource(12))
	for range 500 {
		all := r.Intn(1 << r.Intn(20))
		resumed(t, "work "+strconv.Itoa(r.Intn(all+2))+" "+strconv.Itoa(all)+" "+value(residue(r)).String())
	}
}

// unread fails unless Resume finds nothing in s.
func unread(t *testing.T, s string) {
	t.Helper()
	if resumed(t, s) {
		t.Fatalf("the words of the chapter find a state in %s", short(s))
	}
}

// TestResumeNumbers takes numbers in each place that may not stand there.
func TestResumeNumbers(t *testing.T) {
	for _, bad := range []string{"", "-1", "-0", "+1", "+0", "00", "01", "007", "1.0", "1e0", "0x1", "1_0", "a", "¹", "١", "½", "1\x00", "\x001", "1\n", "\t1", "--1", "9223372036854775808", "18446744073709551616", "18446744073709551617", "36893488147419103232", "-9223372036854775808", "-9223372036854775809", "99999999999999999999999999999999999999999999"} {
		unread(t, "work "+bad+" 1 1")
		unread(t, "work 1 "+bad+" 1")
		unread(t, "work 0 "+bad+" 1")
		if len(bad) < 19 || bad[0] == '-' {
			unread(t, "work 1 1 "+bad)
		}
		unread(t, "work "+bad+" "+bad+" 1")
	}
	for _, v := range []int{most + 1, most + 2, 2 * most, 1 << 32, 1<<32 + 1, math.MaxInt, math.MaxInt - 1, -1, -2, math.MinInt} {
		unread(t, "work 0 "+strconv.Itoa(v)+" 1")
		unread(t, "work "+strconv.Itoa(v)+" 1 1")
		unread(t, "work "+strconv.Itoa(v)+" 1048576 1")
		unread(t, "work "+strconv.Itoa(v)+" "+strconv.Itoa(v)+" 1")
	}
	for _, x := range beyond() {
		unread(t, "work 1 2 "+value(x).String())
	}
	for _, s := range []string{"1e38", "999999999999999999999999999999999999999", "1000000000000000000000000000000000000000", "0183437050444448162921448078311229901656", "183437050444448162921448078311229901657", "340282366920938463463374607431768211456", "340282366920938463463374607431768211461"} {
		unread(t, "work 1 2 "+s)
	}
	resumed(t, "work 1 2 99999999999999999999999999999999999999")
}

// TestResumeDone takes more steps done than there are.
func TestResumeDone(t *testing.T) {
	for _, all := range []int{0, 1, 5, 1000, most} {
		for _, more := range []int{1, 2, 10, most} {
			unread(t, "work "+strconv.Itoa(all+more)+" "+strconv.Itoa(all)+" 1")
		}
	}
}

// TestResumeForm takes texts with too many or too few parts, and other words.
func TestResumeForm(t *testing.T) {
	for _, s := range []string{
		"", " ", "  ", "   ", "work", "work ", "work 0", "work 0 ", "work 0 0", "work 0 0 ", "work 0  0", "work  0 0", "work   0",
		"0 0 0", " 0 0 0", "work 0 0 0 ", " work 0 0 0", "work  0 0 0", "work 0  0 0", "work 0 0  0", "work 0 0 0 0", "work 0 0 0\n", "work\t0\t0\t0", "work 0 0\u00a00",
		"Work 0 0 0", "WORK 0 0 0", "works 0 0 0", "wor 0 0 0", "work/0/0/0", "work 0,0,0", "\"work\" 0 0 0", "work 0 0 0\x00", "\ufeffwork 0 0 0", "deal 0 0 0", "work work 0 0", "0 0 0 work",
	} {
		unread(t, s)
	}
}

// TestResumeBytes changes each byte of texts, leaves it out, and puts another one before it.
func TestResumeBytes(t *testing.T) {
	for _, s := range []string{"work 0 0 0", "work 1 2 9", "work 10 1048576 183437050444448162921448078311229901656"} {
		for i := range len(s) + 1 {
			for b := range 256 {
				resumed(t, s[:i]+string([]byte{byte(b)})+s[i:])
				if i < len(s) {
					resumed(t, s[:i]+string([]byte{byte(b)})+s[i+1:])
				}
			}
			if i < len(s) {
				resumed(t, s[:i]+s[i+1:])
				resumed(t, s[:i])
				resumed(t, s[i:])
			}
		}
	}
}

// TestResumeLong takes texts of a great length.
func TestResumeLong(t *testing.T) {
	long := strings.Repeat("1", 5000000)
	zeros := strings.Repeat("0", 5000000)
	for _, s := range []string{
		"work 0 0 " + long, "work 0 0 " + zeros, "work " + long + " 0 0", "work " + zeros + " 0 0", "work 0 " + long + " 0", "work 0 " + zeros + " 0",
		strings.Repeat("work ", 1000000), strings.Repeat(" ", 5000000), long,
	} {
		if w, err := delay.Resume(s); w != nil || err != api.ErrForm {
			t.Errorf("Resume(%s) = %q, %d", short(s), w.Save(), err)
		}
	}
}
