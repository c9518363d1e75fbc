package ratio_test

import (
	"math"
	"math/big"
	"math/rand"
	"slices"
	"strings"
	"testing"

	"sortes/api"
	"sortes/nat"
	"sortes/ratio"
)

// The tests hold the package against math/big, through its exported functions only.

// natural returns the right natural number of a value that is not negative.
func natural(v *big.Int) api.Nat {
	return api.Nat(v.Bytes())
}

// whole returns the value of a natural number.
func whole(a api.Nat) *big.Int {
	return new(big.Int).SetBytes([]byte(a))
}

// right says by the words of the chapter whether a is right.
func right(a api.Rat) bool {
	num, den := whole(a.Num), whole(a.Den)
	if a.Num != natural(num) || a.Den != natural(den) || den.Sign() == 0 || num.Sign() == 0 && a.Neg {
		return false
	}
	return new(big.Int).GCD(nil, nil, num, den).Cmp(big.NewInt(1)) == 0
}

// value returns the number as which a counts: 0, if it is not right.
func value(a api.Rat) *big.Rat {
	if !right(a) {
		return new(big.Rat)
	}
	v := new(big.Rat).SetFrac(whole(a.Num), whole(a.Den))
	if a.Neg {
		v.Neg(v)
	}
	return v
}

// from returns the right number of a value.
func from(v *big.Rat) api.Rat {
	return api.Rat{Neg: v.Sign() < 0, Num: natural(new(big.Int).Abs(v.Num())), Den: natural(v.Denom())}
}

// frac returns p / q.
func frac(p, q int64) api.Rat {
	return from(big.NewRat(p, q))
}

// show returns numbers as they are, for messages.
func show(l ...api.Rat) string {
	var parts []string
	for _, a := range l {
		sign := "+"
		if a.Neg {
			sign = "-"
		}
		parts = append(parts, sign+whole(a.Num).Text(16)+"/"+whole(a.Den).Text(16))
	}
	return strings.Join(parts, ", ")
}

// equal fails unless a number that was returned is the right one of a value.
func equal(t *testing.T, got api.Rat, want *big.Rat, call string, args ...api.Rat) {
	t.Helper()
	if got != from(want) || !right(got) {
		t.Fatalf("%s(%s) = %s, not %s", call, show(args...), show(got), want)
	}
}

// nothing fails unless a call has answered the zero value and false.
func nothing(t *testing.T, got api.Rat, ok bool, call string, args ...api.Rat) {
	t.Helper()
	if ok || got != (api.Rat{}) {
		t.Fatalf("%s(%s) = %s, %t, not the zero value and false", call, show(args...), show(got), ok)
	}
}

// long returns a natural number of at most n bytes, which is right.
func long(r *rand.Rand, n int) *big.Int {
	b := make([]byte, r.Intn(n+1))
	r.Read(b)
	if r.Intn(3) == 0 { // long runs of ones and zeros
		for i := range b {
			b[i] = byte(-r.Intn(2))
		}
	}
	return new(big.Int).SetBytes(b)
}

// some returns a right number of at most n bytes above, and below.
func some(r *rand.Rand, n int) api.Rat {
	den := long(r, n)
	v := new(big.Rat).SetFrac(long(r, n), den.Add(den, big.NewInt(1)))
	if r.Intn(2) == 0 {
		v.Neg(v)
	}
	return from(v)
}

// wrong returns numbers that are not right, of each sort.
func wrong() []api.Rat {
	one, most, huge := api.Nat("\x01"), nat.Of(math.MaxInt), api.Nat(strings.Repeat("\xfb", 40))
	l := []api.Rat{
		{}, {Num: one}, {Num: huge}, // Den 0
		{Num: one, Den: "\x00"}, {Num: one, Den: "\x00\x00\x00"}, {Den: "\x00"},
		{Num: "\x00\x01", Den: one}, {Num: "\x00\x03", Den: "\x02"}, {Num: "\x00" + huge, Den: one}, // Num not right
		{Num: "\x00", Den: one}, {Num: "\x00\x00\x00\x00\x00\x00\x00\x00\x00", Den: one},
		{Num: one, Den: "\x00\x01"}, {Num: "\x02", Den: "\x00\x03"}, {Num: one, Den: "\x00" + huge}, // Den not right
		{Den: "\x00\x01"}, {Num: "\x00\x01", Den: "\x00\x01"},
		{Num: "\x02", Den: "\x02"}, {Num: "\x02", Den: "\x04"}, {Num: "\x06", Den: "\x04"}, {Num: "\x04", Den: "\x02"}, // a common divisor
		{Num: most, Den: most}, {Num: huge, Den: huge}, {Num: nat.Mul(huge, "\x02"), Den: nat.Mul(most, "\x02")},
		{Num: nat.Mul(huge, huge), Den: nat.Mul(huge, most)}, {Num: nat.Mul(huge, "\x07"), Den: "\x07"}, {Num: "\x07", Den: nat.Mul(huge, "\x07")},
		{Den: "\x02"}, {Den: "\x01\x00"}, {Den: huge}, // 0 / Den
	}
	for _, a := range slices.Clone(l) {
		a.Neg = true
		l = append(l, a)
	}
	return append(l, api.Rat{Neg: true, Den: one}) // -0
}

// small returns all right numbers whose parts are at most n.
func small(n int64) []api.Rat {
	var l []api.Rat
	for q := int64(1); q <= n; q++ {
		for p := -n; p <= n; p++ {
			if a := frac(p, q); !slices.Contains(l, a) {
				l = append(l, a)
			}
		}
	}
	return l
}

// edges returns right numbers at the borders of words.
func edges() []api.Rat {
	var l []api.Rat
	for _, n := range []uint{8, 31, 63, 64, 65, 128} {
		power := new(big.Int).Lsh(big.NewInt(1), n)
		for d := int64(-1); d <= 1; d++ {
			v := new(big.Rat).SetInt(new(big.Int).Add(power, big.NewInt(d)))
			w := new(big.Rat).SetFrac(v.Num(), new(big.Int).Sub(power, big.NewInt(3)))
			l = append(l, from(v), from(new(big.Rat).Neg(v)), from(new(big.Rat).Inv(v)), from(w), from(new(big.Rat).Neg(w)))
		}
	}
	return l
}

// lot returns numbers of all sorts, and last those that are not right.
func lot() []api.Rat {
	r := rand.New(rand.NewSource(1))
	l := append(small(5), edges()...)
	for range 20 {
		l = append(l, some(r, 30))
	}
	return append(l, wrong()...)
}

// pairs calls f with pairs of numbers: of all sorts, long ones, and ones with denominators that have common divisors.
func pairs(f func(a, b api.Rat)) {
	l := lot()
	for _, a := range l {
		for _, b := range l {
			f(a, b)
		}
	}
	r := rand.New(rand.NewSource(2))
	for range 3000 {
		a, b := some(r, 24), some(r, 24)
		f(a, b)
		f(a, a)
		f(a, ratio.Neg(a))
		common := new(big.Int).Add(long(r, 12), big.NewInt(1))
		shared := func(a api.Rat) api.Rat {
			return from(new(big.Rat).Quo(value(a), new(big.Rat).SetInt(common)))
		}
		f(shared(a), shared(b))
		f(shared(a), from(new(big.Rat).SetInt(common)))
	}
	for range 3000 { // sums whose denominators shrink
		d := int64(2 + r.Intn(200))
		f(frac(int64(r.Intn(400)-200), d), frac(int64(r.Intn(400)-200), d*int64(1+r.Intn(3))))
	}
}
