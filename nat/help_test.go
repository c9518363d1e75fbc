package nat_test

import (
	"math/big"
	"math/rand"
	"strings"
	"testing"

	"sortes/api"
	"sortes/nat"
)

// The tests hold the package against math/big, through its exported functions only.

// value returns the value of a, right or not.
func value(a api.Nat) *big.Int {
	return new(big.Int).SetBytes([]byte(a))
}

// from returns the right number of a value.
func from(v *big.Int) api.Nat {
	return api.Nat(v.Bytes())
}

// zeros returns n bytes 0.
func zeros(n int) api.Nat {
	return api.Nat(strings.Repeat("\x00", n))
}

// repeat returns n bytes b.
func repeat(b byte, n int) api.Nat {
	return api.Nat(strings.Repeat(string([]byte{b}), n))
}

// power returns 2 to the power of n.
func power(n int) *big.Int {
	return new(big.Int).Lsh(big.NewInt(1), uint(n))
}

// equal fails unless a number that was returned is right and has that value.
func equal(t *testing.T, got api.Nat, want *big.Int, call string, args ...api.Nat) {
	t.Helper()
	if got != from(want) {
		t.Fatalf("%s%x = %x, not %x", call, args, string(got), want.Bytes())
	}
}

// nothing fails unless a call has answered 0 and false.
func nothing(t *testing.T, got api.Nat, ok bool, call string, args ...api.Nat) {
	t.Helper()
	if ok || got != "" {
		t.Fatalf("%s%x = %x, %t, not 0 and false", call, args, string(got), ok)
	}
}

// long returns a number of at most n bytes, in runs of the same byte: where carries, borrows and digits that were estimated wrongly come from. Some are not right.
func long(r *rand.Rand, n int) api.Nat {
	size := r.Intn(n + 1)
	var b []byte
	for len(b) < size {
		c := []byte{0, 0, 255, 255, 1, 127, 128, 254, byte(r.Intn(256))}[r.Intn(9)]
		run := []int{1, 1, 2, 3, 4, 7, 8, 8, 16}[r.Intn(9)]
		for range min(run, size-len(b)) {
			b = append(b, c)
		}
	}
	return api.Nat(b)
}

// pairs calls f with pairs of numbers: small ones, equal ones, neighbours, and long ones.
func pairs(f func(a, b api.Nat)) {
	for a := range 70 {
		for b := range 70 {
			f(nat.Of(a), nat.Of(b))
		}
	}
	r := rand.New(rand.NewSource(1))
	for range 20000 {
		a, b := long(r, 48), long(r, 48)
		f(a, b)
		f(a, a)
		f(zeros(r.Intn(10))+a, a)
		f(a, from(new(big.Int).Add(value(a), big.NewInt(1))))
	}
}
