package nat_test

import (
	"math/rand"
	"testing"

	"sortes/api"
	"sortes/nat"
)

// P1.6

func same(t *testing.T, law string, a, b api.Nat) {
	t.Helper()
	if a != b {
		t.Fatalf("%s: %x and %x", law, string(a), string(b))
	}
}

func TestLawsOfSums(t *testing.T) {
	r := rand.New(rand.NewSource(10))
	for range 5000 {
		a, b, c := long(r, 40), long(r, 40), long(r, 40)
		same(t, "a + b = b + a", nat.Add(a, b), nat.Add(b, a))
		same(t, "a b = b a", nat.Mul(a, b), nat.Mul(b, a))
		same(t, "(a + b) + c = a + (b + c)", nat.Add(nat.Add(a, b), c), nat.Add(a, nat.Add(b, c)))
		same(t, "(a b) c = a (b c)", nat.Mul(nat.Mul(a, b), c), nat.Mul(a, nat.Mul(b, c)))
		same(t, "a (b + c) = a b + a c", nat.Mul(a, nat.Add(b, c)), nat.Add(nat.Mul(a, b), nat.Mul(a, c)))
		back, ok := nat.Sub(nat.Add(a, b), b)
		if !ok || nat.Cmp(back, a) != 0 || !nat.Right(back) {
			t.Fatalf("Sub does not undo Add: %x, %x", string(a), string(b))
		}
	}
}

func TestLawsOfQuotients(t *testing.T) {
	r := rand.New(rand.NewSource(11))
	for range 5000 {
		a, b := long(r, 60), long(r, 40)+"\x01"
		q, rest, ok := nat.Quo(a, b)
		if !ok || nat.Cmp(rest, b) >= 0 || nat.Cmp(nat.Add(nat.Mul(b, q), rest), a) != 0 {
			t.Fatalf("Quo(%x, %x) = %x, %x, %t", string(a), string(b), string(q), string(rest), ok)
		}
	}
}

func TestLawOfBits(t *testing.T) {
	r := rand.New(rand.NewSource(12))
	for range 5000 {
		a, b := long(r, 40)+"\x01", long(r, 40)+"\x80"
		sum, got := nat.Bits(a)+nat.Bits(b), nat.Bits(nat.Mul(a, b))
		if got != sum && got != sum-1 {
			t.Fatalf("Bits of the product of %x and %x = %d", string(a), string(b), got)
		}
	}
}

func TestLawOfPowers(t *testing.T) {
	r := rand.New(rand.NewSource(13))
	for n := range 1000 {
		a, e, f, m := long(r, 24), long(r, 5), long(r, 5), long(r, 24)+api.Nat([]byte{byte(1 + n%255)})
		x, _ := nat.Pow(a, e, m)
		y, _ := nat.Pow(a, f, m)
		_, product, _ := nat.Quo(nat.Mul(x, y), m)
		both, ok := nat.Pow(a, nat.Add(e, f), m)
		if !ok {
			t.Fatalf("no power modulo %x", string(m))
		}
		same(t, "a^(e + f) = a^e a^f modulo m", both, product)
	}
}

// TestExamples holds the examples of the chapter.
func TestExamples(t *testing.T) {
	same(t, "Of(256)", nat.Of(256), "\x01\x00")
	same(t, "Of(-1)", nat.Of(-1), "")
	if n, ok := nat.Int("\x00\x01\x00"); n != 256 || !ok {
		t.Errorf("Int = %d, %t", n, ok)
	}
	less, ok := nat.Sub(nat.Of(3), nat.Of(5))
	nothing(t, less, ok, "Sub(3, 5)")
	two, ok := nat.Sub(nat.Of(5), nat.Of(3))
	if same(t, "Sub(5, 3)", two, "\x02"); !ok {
		t.Error("Sub(5, 3) is not possible")
	}
	q, rest, ok := nat.Quo(nat.Of(1000), nat.Of(7))
	if q != nat.Of(142) || rest != nat.Of(6) || !ok {
		t.Errorf("Quo(1000, 7) = %s, %s, %t", nat.Text(q), nat.Text(rest), ok)
	}
	same(t, "Gcd(12, 18)", nat.Gcd(nat.Of(12), nat.Of(18)), "\x06")
	same(t, "Gcd(0, 5)", nat.Gcd("", nat.Of(5)), "\x05")
	if nat.Bits("\xff") != 8 || nat.Bits("\x01\x00") != 9 {
		t.Error("Bits")
	}
	x, ok := nat.Pow(nat.Of(3), nat.Of(200), nat.Of(1000))
	if same(t, "Pow(3, 200, 1000)", x, "\x01"); !ok {
		t.Error("Pow(3, 200, 1000) is not possible")
	}
	x, ok = nat.Pow(nat.Of(5), "", nat.Of(1))
	if same(t, "Pow(5, 0, 1)", x, ""); !ok {
		t.Error("Pow(5, 0, 1) is not possible")
	}
	if s := nat.Text("\x01\x00\x00"); s != "65536" {
		t.Errorf("Text = %s", s)
	}
	none, ok := nat.Parse("007")
	nothing(t, none, ok, "Parse(007)")
}
