package nat_test

import (
	"math"
	"math/big"
	"math/rand"
	"slices"
	"testing"

	"sortes/api"
	"sortes/nat"
)

// P1.1

func TestRight(t *testing.T) {
	for a, want := range map[api.Nat]bool{
		"": true, "\x01": true, "\x01\x00": true, "\xff": true, "\x80\x00\x00": true, "0": true,
		"\x00": false, "\x00\x00": false, "\x00\x01": false, "\x00\xff\xff": false, "\x00\x00\x01\x00": false,
	} {
		if got := nat.Right(a); got != want {
			t.Errorf("Right(%q) = %t", a, got)
		}
	}
	if nat.Right(zeros(1)+repeat(7, 100)) || !nat.Right(repeat(7, 100)+zeros(1)) {
		t.Error("Right of a long number")
	}
}

func TestOf(t *testing.T) {
	for n, want := range map[int]api.Nat{
		0: "", -1: "", -256: "", math.MinInt: "", math.MinInt + 1: "",
		1: "\x01", 127: "\x7f", 128: "\x80", 255: "\xff", 256: "\x01\x00", 65535: "\xff\xff", 65536: "\x01\x00\x00",
		1<<32 - 1: "\xff\xff\xff\xff", 1 << 32: "\x01\x00\x00\x00\x00", 1 << 56: "\x01\x00\x00\x00\x00\x00\x00\x00",
		math.MaxInt: "\x7f\xff\xff\xff\xff\xff\xff\xff", math.MaxInt - 1: "\x7f\xff\xff\xff\xff\xff\xff\xfe",
	} {
		if got := nat.Of(n); got != want {
			t.Errorf("Of(%d) = %q", n, got)
		}
	}
}

func TestInt(t *testing.T) {
	for _, c := range []struct {
		a    api.Nat
		want int
		ok   bool
	}{
		{"", 0, true}, {"\x00", 0, true}, {zeros(50), 0, true}, {"\x05", 5, true}, {"\x00\x01\x00", 256, true},
		{zeros(50) + "\x12\x34", 0x1234, true}, {"\x01\x02\x03\x04\x05\x06\x07\x08", 0x0102030405060708, true},
		{"\x7f\xff\xff\xff\xff\xff\xff\xff", math.MaxInt, true},
		{"\x7f\xff\xff\xff\xff\xff\xff\xfe", math.MaxInt - 1, true},
		{zeros(9) + "\x7f\xff\xff\xff\xff\xff\xff\xff", math.MaxInt, true},
		{"\x80\x00\x00\x00\x00\x00\x00\x00", 0, false},
		{"\x80\x00\x00\x00\x00\x00\x00\x05", 0, false},
		{"\x00\x80\x00\x00\x00\x00\x00\x00\x00", 0, false},
		{repeat(255, 8), 0, false}, {"\x01" + zeros(8), 0, false}, {"\x01" + zeros(7) + "\x05", 0, false},
		{"\x01" + zeros(8) + "\x07", 0, false}, {"\x01" + zeros(15) + "\x05", 0, false}, {repeat(1, 100), 0, false},
	} {
		if got, ok := nat.Int(c.a); got != c.want || ok != c.ok {
			t.Errorf("Int(%x) = %d, %t", string(c.a), got, ok)
		}
	}
	for place := range 63 {
		for _, n := range []int{1 << place, 1<<place - 1, 1<<place + 1} {
			n = max(n, 0)
			equal(t, nat.Of(n), big.NewInt(int64(n)), "Of")
			if back, ok := nat.Int(zeros(place%3) + nat.Of(n)); back != n || !ok {
				t.Errorf("Int of Of(%d) = %d, %t", n, back, ok)
			}
		}
	}
}

// P1.2

func TestCmp(t *testing.T) {
	pairs(func(a, b api.Nat) {
		if got := nat.Cmp(a, b); got != value(a).Cmp(value(b)) {
			t.Fatalf("Cmp(%x, %x) = %d", string(a), string(b), got)
		}
	})
	for n := range 40 { // they differ in one byte, or in their length
		a := repeat(200, n) + "\x05" + repeat(100, 20)
		b := repeat(200, n) + "\x06" + repeat(0, 20)
		if nat.Cmp(a, b) != -1 || nat.Cmp(b, a) != 1 || nat.Cmp("\x01"+zeros(n), repeat(255, n)) != 1 || nat.Cmp(zeros(n)+"\x01", "\x02") != -1 {
			t.Errorf("Cmp, %d bytes", n)
		}
	}
}

func TestAdd(t *testing.T) {
	pairs(func(a, b api.Nat) {
		want := new(big.Int).Add(value(a), value(b))
		equal(t, nat.Add(a, b), want, "Add", a, b)
	})
	for n := range 40 { // a carry runs through all bytes
		full := repeat(255, n)
		equal(t, nat.Add(full, "\x01"), power(8*n), "Add", full)
		equal(t, nat.Add("\x01", full), power(8*n), "Add", full)
		equal(t, nat.Add(full, ""), value(full), "Add", full)
		equal(t, nat.Add(zeros(n), full), value(full), "Add", full)
	}
	equal(t, nat.Add("", ""), new(big.Int), "Add")
	equal(t, nat.Add("\x00", "\x00\x00"), new(big.Int), "Add")
}

func TestSub(t *testing.T) {
	pairs(func(a, b api.Nat) {
		got, ok := nat.Sub(a, b)
		want := new(big.Int).Sub(value(a), value(b))
		if want.Sign() < 0 {
			nothing(t, got, ok, "Sub", a, b)
		} else if !ok {
			t.Fatalf("Sub(%x, %x) is not possible", string(a), string(b))
		} else {
			equal(t, got, want, "Sub", a, b)
		}
	})
	for n := range 40 { // a borrow runs through all bytes
		got, ok := nat.Sub("\x01"+zeros(n), "\x01")
		equal(t, got, value(repeat(255, n)), "Sub")
		less, not := nat.Sub(repeat(255, n), "\x01"+zeros(n))
		if nothing(t, less, not, "Sub"); !ok {
			t.Errorf("Sub of 256 to the power of %d and 1", n)
		}
	}
}

func TestMul(t *testing.T) {
	pairs(func(a, b api.Nat) {
		want := new(big.Int).Mul(value(a), value(b))
		equal(t, nat.Mul(a, b), want, "Mul", a, b)
	})
	for n := range 40 {
		full := repeat(255, n)
		equal(t, nat.Mul(full, full), new(big.Int).Mul(value(full), value(full)), "Mul", full)
		equal(t, nat.Mul(full, "\x00"), new(big.Int), "Mul", full)
		equal(t, nat.Mul("", full), new(big.Int), "Mul", full)
		equal(t, nat.Mul("\x01"+zeros(n), full), new(big.Int).Lsh(value(full), uint(8*n)), "Mul", full)
	}
}

// P1.3

// divided checks Quo against math/big.
func divided(t *testing.T, a, b api.Nat) {
	t.Helper()
	q, r, ok := nat.Quo(a, b)
	if value(b).Sign() == 0 {
		nothing(t, q, ok, "Quo", a, b)
		nothing(t, r, ok, "Quo", a, b)
		return
	}
	if !ok {
		t.Fatalf("Quo(%x, %x) is not possible", string(a), string(b))
	}
	quotient, rest := new(big.Int).QuoRem(value(a), value(b), new(big.Int))
	equal(t, q, quotient, "Quo", a, b)
	equal(t, r, rest, "rest of Quo", a, b)
}

func TestQuo(t *testing.T) {
	pairs(func(a, b api.Nat) {
		divided(t, a, b)
		divided(t, b, a)
	})
	r := rand.New(rand.NewSource(2))
	for range 20000 { // rests at both ends, and quotients of many digits
		q, b := long(r, 30), long(r, 30)
		a := nat.Mul(q, b)
		divided(t, a, b)
		divided(t, nat.Add(a, "\x01"), b)
		if less, ok := nat.Sub(a, "\x01"); ok {
			divided(t, less, b)
		}
		divided(t, long(r, 200), b)
	}
	for _, b := range []api.Nat{"", "\x00", zeros(20)} {
		for _, a := range []api.Nat{"", "\x00", "\x01", repeat(9, 30)} {
			divided(t, a, b)
		}
	}
}

// TestQuoDigits divides numbers of a few digits to the bases 2^8, 2^16, 2^32 and 2^64, whose quotients are hard to estimate from the first digits.
func TestQuoDigits(t *testing.T) {
	for _, size := range []int{1, 2, 4, 8} {
		digits := []api.Nat{zeros(size), zeros(size-1) + "\x01", repeat(255, size), repeat(255, size-1) + "\xfe", "\x80" + zeros(size-1), "\x7f" + repeat(255, size-1)}
		var some func(n int) []api.Nat
		some = func(n int) []api.Nat {
			if n == 0 {
				return []api.Nat{""}
			}
			var l []api.Nat
			for _, a := range some(n - 1) {
				for _, d := range digits {
					l = append(l, a+d)
				}
			}
			return l
		}
		for _, b := range append(some(2), some(3)...) {
			for _, a := range some(4) {
				divided(t, a, b)
			}
		}
	}
}

func TestGcd(t *testing.T) {
	try := func(a, b api.Nat) {
		want := new(big.Int).GCD(nil, nil, value(a), value(b))
		equal(t, nat.Gcd(a, b), want, "Gcd", a, b)
	}
	pairs(func(a, b api.Nat) {
		try(a, b)
		try(b, a)
	})
	r := rand.New(rand.NewSource(3))
	for range 5000 { // with a common factor, of lengths that differ
		f := long(r, 20)
		try(nat.Mul(long(r, 20), f), nat.Mul(long(r, 20), f))
		try(nat.Mul(long(r, 100), f), f)
	}
	for n := range 20 {
		for m := range 20 { // powers of 2
			try("\x04"+zeros(n), "\x10"+zeros(m))
			try("\x05"+zeros(n), "\x0f"+zeros(m))
		}
	}
	a, b := nat.Of(1), nat.Of(1)
	for range 400 { // the most steps that Euclid's algorithm can need
		try(a, b)
		a, b = nat.Add(a, b), a
	}
	for _, a := range []api.Nat{"", "\x00", zeros(9)} {
		for _, b := range []api.Nat{"", "\x00\x00", "\x05", "\x00\x05", zeros(9) + repeat(6, 30)} {
			try(a, b)
			try(b, a)
		}
	}
}

// P1.4

func TestBits(t *testing.T) {
	for n := range 400 {
		one := from(power(n))
		less, _ := nat.Sub(one, "\x01")
		for front := range 10 {
			if got := nat.Bits(zeros(front) + one); got != n+1 {
				t.Errorf("Bits of 2 to the power of %d = %d", n, got)
			}
			if got := nat.Bits(zeros(front) + less); got != n {
				t.Errorf("Bits of 2 to the power of %d, less 1 = %d", n, got)
			}
		}
	}
	r := rand.New(rand.NewSource(4))
	for range 1000 {
		if a := long(r, 40); nat.Bits(a) != value(a).BitLen() {
			t.Errorf("Bits(%x) = %d", string(a), nat.Bits(a))
		}
	}
}

// raised checks Pow against math/big.
func raised(t *testing.T, a, e, m api.Nat) {
	t.Helper()
	got, ok := nat.Pow(a, e, m)
	if value(m).Sign() == 0 {
		nothing(t, got, ok, "Pow", a, e, m)
		return
	}
	if !ok {
		t.Fatalf("Pow(%x, %x, %x) is not possible", string(a), string(e), string(m))
	}
	equal(t, got, new(big.Int).Exp(value(a), value(e), value(m)), "Pow", a, e, m)
}

func TestPowSmall(t *testing.T) {
	for m := range 40 {
		for a := range 45 {
			for e := range 12 {
				raised(t, nat.Of(a), nat.Of(e), nat.Of(m))
			}
			raised(t, nat.Of(a), nat.Of(1000), nat.Of(m))
		}
	}
}

func TestPowLong(t *testing.T) {
	r := rand.New(rand.NewSource(5))
	for range 4000 {
		m := long(r, 40)
		for _, m := range []api.Nat{m, m + "\x01", m + "\xff", m + "\x00", m + "\x02"} { // odd and even
			raised(t, long(r, 50), long(r, 4), m)
		}
	}
	for range 200 {
		raised(t, long(r, 30), long(r, 30), long(r, 30))
	}
	for _, n := range []int{8, 16, 31, 32, 33, 63, 64, 65, 127, 128, 129, 192, 256} { // as great or small as moduli of that size can be
		for _, d := range []int64{-3, -2, -1, 0, 1, 2, 3} {
			m := new(big.Int).Add(power(n), big.NewInt(d))
			for _, c := range []int64{-2, -1, 0, 1, 2} {
				a := new(big.Int).Add(m, big.NewInt(c))
				for _, e := range []api.Nat{"", "\x00", "\x01", "\x02", "\x03", "\x00\x11", from(m)} {
					raised(t, from(a), e, from(m))
				}
			}
		}
	}
}

func TestPowLimits(t *testing.T) {
	for _, a := range []api.Nat{"", "\x00", "\x01", "\x00\x02", repeat(255, 20)} {
		for _, e := range []api.Nat{"", "\x00", zeros(12), "\x01", "\x00\x05", zeros(9) + repeat(3, 20)} {
			for _, m := range []api.Nat{"", "\x00", zeros(30), "\x01", "\x00\x01", "\x02", "\x00\x03", "\x00" + repeat(4, 20), "\x00" + repeat(5, 20)} {
				raised(t, a, e, m)
			}
		}
	}
	raised(t, "\x07", repeat(0xa5, 1000), api.Modulus) // a long exponent
	raised(t, "\x07", "\x01"+zeros(1000), api.Modulus)
	raised(t, repeat(0xa5, 1000), "\x11", api.Modulus)
	order := nat.Of(api.Q)
	for a := 1; a < 50; a++ {
		raised(t, nat.Of(a), order, nat.Of(api.P))
		raised(t, nat.Of(api.P-a), nat.Of(api.P-1), nat.Of(api.P))
	}
}

// P1: every call ends without a panic; R4: and answers the same again.

func TestAll(t *testing.T) {
	r := rand.New(rand.NewSource(6))
	all := func(a, b, c api.Nat) []api.Nat {
		yes := map[bool]api.Nat{true: "yes"}
		l := []api.Nat{nat.Add(a, b), nat.Mul(a, b), nat.Gcd(a, b), nat.Of(nat.Bits(a)), nat.Of(nat.Cmp(a, b) + 2)}
		small, ok := nat.Int(a)
		l = append(l, nat.Of(small), yes[ok], yes[nat.Right(a)])
		less, ok := nat.Sub(a, b)
		l = append(l, less, yes[ok])
		q, rest, ok := nat.Quo(a, b)
		l = append(l, q, rest, yes[ok])
		p, ok := nat.Pow(a, b, c)
		l = append(l, p, yes[ok], "t"+api.Nat(nat.Text(a)))
		n, ok := nat.Parse(string(a))
		return append(l, n, yes[ok])
	}
	for range 3000 {
		a, b, c := long(r, 24), long(r, 24), long(r, 24)
		first := all(a, b, c)
		if !slices.Equal(first, all(a, b, c)) {
			t.Fatalf("two answers for %x, %x, %x", string(a), string(b), string(c))
		}
		for n, x := range first {
			if !nat.Right(x) {
				t.Fatalf("result %d for %x, %x, %x is not right", n, string(a), string(b), string(c))
			}
		}
	}
}

// R5: arguments may be large.
func TestLarge(t *testing.T) {
	r := rand.New(rand.NewSource(7))
	b := make([]byte, 4000)
	r.Read(b)
	a := api.Nat(b)
	r.Read(b)
	c := api.Nat(b[:1500])
	equal(t, nat.Add(a, c), new(big.Int).Add(value(a), value(c)), "Add")
	equal(t, nat.Mul(a, c), new(big.Int).Mul(value(a), value(c)), "Mul")
	divided(t, a, c)
	raised(t, a, "\x01\x01", c)
	equal(t, nat.Gcd(nat.Mul(a, "\x0f"), nat.Mul(a, "\x15")), new(big.Int).Mul(value(a), big.NewInt(3)), "Gcd")
	if got := nat.Bits(c); got != value(c).BitLen() {
		t.Errorf("Bits = %d", got)
	}
	if got := nat.Text(a); got != value(a).String() {
		t.Error("Text of a long number")
	}
	if got, ok := nat.Parse(value(a).String()); !ok || got != from(value(a)) {
		t.Error("Parse of a long number")
	}
}
