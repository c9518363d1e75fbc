package ratio_test

import (
	"math"
	"math/big"
	"math/rand"
	"strings"
	"testing"

	"sortes/api"
	"sortes/nat"
	"sortes/ratio"
)

// P2.2

func TestOf(t *testing.T) {
	for _, n := range []int{0, 1, -1, 2, -2, 7, 255, 256, -256, 1 << 32, -1 << 32, math.MaxInt, math.MaxInt - 1, math.MinInt, math.MinInt + 1} {
		if got := ratio.Of(n); got != from(new(big.Rat).SetInt64(int64(n))) {
			t.Errorf("Of(%d) = %s", n, show(got))
		}
	}
	for n := -300; n < 300; n++ {
		equal(t, ratio.Of(n), big.NewRat(int64(n), 1), "Of")
	}
	if got := ratio.Of(0); got != (api.Rat{Den: "\x01"}) {
		t.Errorf("Of(0) = %s", show(got))
	}
}

// made checks Make with right natural numbers, and both signs.
func made(t *testing.T, num, den api.Nat) {
	t.Helper()
	for _, neg := range []bool{false, true} {
		got, ok := ratio.Make(neg, num, den)
		if den == "" {
			nothing(t, got, ok, "Make", api.Rat{Neg: neg, Num: num, Den: den})
			continue
		}
		want := new(big.Rat).SetFrac(whole(num), whole(den))
		if neg {
			want.Neg(want)
		}
		equal(t, got, want, "Make", api.Rat{Neg: neg, Num: num, Den: den})
		if !ok {
			t.Fatalf("Make(%s) is not possible", show(api.Rat{Neg: neg, Num: num, Den: den}))
		}
	}
}

func TestMake(t *testing.T) {
	for p := range 60 {
		for q := range 60 {
			made(t, nat.Of(p), nat.Of(q))
		}
	}
	r := rand.New(rand.NewSource(3))
	for range 3000 {
		f, p, q := natural(long(r, 20)), natural(long(r, 20)), natural(long(r, 20))
		made(t, p, q)
		made(t, nat.Mul(f, p), nat.Mul(f, q))
		made(t, nat.Mul(f, p), f)
		made(t, f, nat.Mul(f, p))
	}
}

func TestMakeNothing(t *testing.T) {
	good := []api.Nat{"", "\x01", "\x02", "\x06", "\x01\x00", "\xff\xff\xff\xff\xff\xff\xff\xff\xff"}
	bad := []api.Nat{"\x00", "\x00\x00", "\x00\x01", "\x00\x00\x06", "\x00\xff\xff\xff\xff\xff\xff\xff\xff\xff"}
	try := func(num, den api.Nat) {
		for _, neg := range []bool{false, true} {
			got, ok := ratio.Make(neg, num, den)
			nothing(t, got, ok, "Make", api.Rat{Neg: neg, Num: num, Den: den})
		}
	}
	for _, a := range bad {
		for _, b := range good {
			try(a, b)
			try(b, a)
		}
		for _, b := range bad {
			try(a, b)
		}
	}
	for _, a := range good {
		try(a, "")
	}
}

func TestRight(t *testing.T) {
	for _, a := range lot() {
		if ratio.Right(a) != right(a) {
			t.Errorf("Right(%s) = %t", show(a), ratio.Right(a))
		}
	}
	for _, a := range wrong() {
		if ratio.Right(a) {
			t.Errorf("%s is right", show(a))
		}
	}
	for p := range 40 {
		for q := range 40 {
			a := api.Rat{Num: nat.Of(p), Den: nat.Of(q)}
			b := api.Rat{Neg: true, Num: a.Num, Den: a.Den}
			if ratio.Right(a) != right(a) || ratio.Right(b) != right(b) {
				t.Errorf("Right(%s) = %t, Right(%s) = %t", show(a), ratio.Right(a), show(b), ratio.Right(b))
			}
		}
	}
	if !ratio.Right(api.Rat{Den: "\x01"}) || !ratio.Right(api.Rat{Neg: true, Num: "\x03", Den: "\x02"}) {
		t.Error("0 or -3/2 is not right")
	}
}

// P2.3

func TestSign(t *testing.T) {
	for _, a := range lot() {
		if got := ratio.Sign(a); got != value(a).Sign() {
			t.Errorf("Sign(%s) = %d", show(a), got)
		}
	}
}

func TestCmp(t *testing.T) {
	pairs(func(a, b api.Rat) {
		if got := ratio.Cmp(a, b); got != value(a).Cmp(value(b)) {
			t.Fatalf("Cmp(%s) = %d", show(a, b), got)
		}
		if ratio.Cmp(a, b) != ratio.Sign(ratio.Sub(a, b)) {
			t.Fatalf("Cmp(%s) is not the Sign of the difference", show(a, b))
		}
	})
	power := new(big.Int).Lsh(big.NewInt(1), 200) // they differ by very little
	a := new(big.Rat).SetFrac(power, new(big.Int).Add(power, big.NewInt(1)))
	b := new(big.Rat).SetFrac(new(big.Int).Add(power, big.NewInt(1)), new(big.Int).Add(power, big.NewInt(2)))
	if ratio.Cmp(from(a), from(b)) != -1 || ratio.Cmp(from(b), from(a)) != 1 || ratio.Cmp(from(a), from(a)) != 0 {
		t.Error("Cmp of neighbours")
	}
}

func TestNeg(t *testing.T) {
	for _, a := range lot() {
		equal(t, ratio.Neg(a), new(big.Rat).Neg(value(a)), "Neg", a)
	}
	if got := ratio.Neg(ratio.Of(0)); got.Neg {
		t.Error("Neg(0) has a sign")
	}
}

// P2.4

func TestAdd(t *testing.T) {
	pairs(func(a, b api.Rat) {
		equal(t, ratio.Add(a, b), new(big.Rat).Add(value(a), value(b)), "Add", a, b)
	})
}

func TestSub(t *testing.T) {
	pairs(func(a, b api.Rat) {
		equal(t, ratio.Sub(a, b), new(big.Rat).Sub(value(a), value(b)), "Sub", a, b)
	})
}

func TestMul(t *testing.T) {
	pairs(func(a, b api.Rat) {
		equal(t, ratio.Mul(a, b), new(big.Rat).Mul(value(a), value(b)), "Mul", a, b)
	})
}

func TestQuo(t *testing.T) {
	pairs(func(a, b api.Rat) {
		got, ok := ratio.Quo(a, b)
		if value(b).Sign() == 0 {
			nothing(t, got, ok, "Quo", a, b)
			return
		}
		equal(t, got, new(big.Rat).Quo(value(a), value(b)), "Quo", a, b)
		if !ok {
			t.Fatalf("Quo(%s) is not possible", show(a, b))
		}
	})
	for _, b := range append(wrong(), ratio.Of(0)) {
		got, ok := ratio.Quo(ratio.Of(1), b)
		nothing(t, got, ok, "Quo", ratio.Of(1), b)
	}
}

// P2.1: the results are right, and an argument that is not right counts as 0.

func TestWrongCountAsZero(t *testing.T) {
	zero := new(big.Rat)
	for _, a := range wrong() {
		equal(t, ratio.Neg(a), zero, "Neg", a)
		equal(t, ratio.Sum([]api.Rat{a}), zero, "Sum", a)
		if ratio.Sign(a) != 0 || ratio.Text(a) != "0" {
			t.Errorf("Sign or Text of %s", show(a))
		}
		for _, b := range []api.Rat{frac(3, 2), frac(-3, 2), ratio.Of(0), ratio.Of(math.MinInt)} {
			equal(t, ratio.Add(a, b), value(b), "Add", a, b)
			equal(t, ratio.Sub(b, a), value(b), "Sub", b, a)
			equal(t, ratio.Mul(a, b), zero, "Mul", a, b)
			equal(t, ratio.Mul(b, a), zero, "Mul", b, a)
			if ratio.Cmp(a, b) != -ratio.Sign(b) || ratio.Cmp(b, a) != ratio.Sign(b) {
				t.Errorf("Cmp(%s)", show(a, b))
			}
		}
		got, ok := ratio.Quo(a, frac(-2, 3))
		if equal(t, got, zero, "Quo", a, frac(-2, 3)); !ok {
			t.Errorf("Quo(%s) is not possible", show(a, frac(-2, 3)))
		}
	}
}

// R5: arguments may be large.
func TestLarge(t *testing.T) {
	r := rand.New(rand.NewSource(4))
	number := func() api.Rat {
		b := make([]byte, 1500)
		r.Read(b)
		return from(new(big.Rat).SetFrac(new(big.Int).SetBytes(b[:900]), new(big.Int).SetBytes(b[900:])))
	}
	a, b := number(), ratio.Neg(number())
	equal(t, ratio.Add(a, b), new(big.Rat).Add(value(a), value(b)), "Add")
	equal(t, ratio.Sub(a, b), new(big.Rat).Sub(value(a), value(b)), "Sub")
	equal(t, ratio.Mul(a, b), new(big.Rat).Mul(value(a), value(b)), "Mul")
	got, ok := ratio.Quo(a, b)
	if equal(t, got, new(big.Rat).Quo(value(a), value(b)), "Quo"); !ok {
		t.Error("Quo of long numbers is not possible")
	}
	text := ratio.Text(b)
	if back, ok := ratio.Parse(text); text != value(b).RatString() || !ok || back != b {
		t.Error("Text or Parse of a long number")
	}
	if _, ok := ratio.Parse(strings.Repeat("9", 3000) + "/" + strings.Repeat("3", 3000)); ok {
		t.Error("Parse of a long text that is not in lowest terms")
	}
}

// P1: every call ends without a panic; R4: and answers the same again.
func TestAll(t *testing.T) {
	r := rand.New(rand.NewSource(5))
	bytes := func() api.Nat {
		b := make([]byte, r.Intn(12))
		for i := range b {
			b[i] = []byte{0, 0, 1, 2, 6, 255}[r.Intn(6)]
		}
		return api.Nat(b)
	}
	type answers struct {
		results            [7]api.Rat
		sign, cmp          int
		right, quo, parsed bool
		text, common       string
	}
	all := func(a, b api.Rat) answers {
		var s answers
		s.results = [7]api.Rat{ratio.Neg(a), ratio.Add(a, b), ratio.Sub(a, b), ratio.Mul(a, b), ratio.Sum([]api.Rat{a, b})}
		s.results[5], s.quo = ratio.Quo(a, b)
		s.results[6], s.parsed = ratio.Parse(string(a.Num))
		s.sign, s.cmp, s.right, s.text = ratio.Sign(a), ratio.Cmp(a, b), ratio.Right(a), ratio.Text(a)
		d, l, _ := ratio.Common([]api.Rat{a, b})
		s.common = string(d)
		for _, n := range l {
			s.common += "," + string(n)
		}
		return s
	}
	for range 5000 {
		a := api.Rat{Neg: r.Intn(2) == 0, Num: bytes(), Den: bytes()}
		b := api.Rat{Neg: r.Intn(2) == 0, Num: bytes(), Den: bytes()}
		s := all(a, b)
		if s != all(a, b) {
			t.Fatalf("two answers for %s", show(a, b))
		}
		for n, x := range s.results {
			void := n == 5 && !s.quo || n == 6 && !s.parsed
			if void != (x == api.Rat{}) || !void && !right(x) {
				t.Fatalf("result %d for %s is %s", n, show(a, b), show(x))
			}
		}
	}
}
