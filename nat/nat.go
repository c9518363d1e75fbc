// Package nat computes with natural numbers of any size, which are strings of bytes, the most significant one first. It is layer 1: see shared/doc/01-nat.md.
package nat

import (
	"math/bits"
	"strings"

	"sortes/api"
)

// Of returns n, and 0 for a negative n.
func Of(n int) api.Nat {
	if n < 0 {
		return ""
	}
	return number([]uint64{uint64(n)})
}

// Int returns a and true, if a fits into an int, and otherwise 0 and false.
func Int(a api.Nat) (int, bool) {
	if Bits(a) > 63 {
		return 0, false
	}
	n := 0
	for _, word := range words(a) {
		n = int(word)
	}
	return n, true
}

// Right reports whether a has no zeros in front.
func Right(a api.Nat) bool {
	return a == "" || a[0] != 0
}

// Cmp returns -1, 0 or 1, if a is less than, equal to, or greater than b.
func Cmp(a, b api.Nat) int {
	return compare(words(a), words(b))
}

// Add returns the sum of a and b.
func Add(a, b api.Nat) api.Nat {
	x, y := words(a), words(b)
	sum := widen(x, max(len(x), len(y))+1)
	add(sum, y)
	return number(sum)
}

// Sub returns a - b and true, if b is not greater than a; otherwise 0 and false.
func Sub(a, b api.Nat) (api.Nat, bool) {
	x, y := words(a), words(b)
	if compare(x, y) < 0 {
		return "", false
	}
	subtract(x, y)
	return number(x), true
}

// Mul returns the product of a and b.
func Mul(a, b api.Nat) api.Nat {
	return number(product(words(a), words(b)))
}

// Quo returns the quotient of a and b, rounded down, the rest, and true; 0, 0 and false, if b is 0.
func Quo(a, b api.Nat) (q, r api.Nat, ok bool) {
	by := words(b)
	if len(by) == 0 {
		return "", "", false
	}
	quotient, left := divide(words(a), by)
	return number(quotient), number(left), true
}

// Gcd returns the greatest common divisor of a and b, and the other one, if one of them is 0.
func Gcd(a, b api.Nat) api.Nat {
	x, y := words(a), words(b)
	if len(x) < len(y) {
		x, y = y, x
	}
	// Only a division brings a long number down to the size of a short one quickly.
	if len(x) > len(y) && len(y) > 0 {
		x, y = y, rest(x, y)
	}
	if len(y) == 0 {
		return number(x)
	}
	return number(gcd(x, y))
}

// Bits returns the number of digits of a to the base 2, and 0 for 0.
func Bits(a api.Nat) int {
	a = trimZeros(a)
	if a == "" {
		return 0
	}
	return 8*(len(a)-1) + bits.Len8(a[0])
}

func trimZeros(a api.Nat) api.Nat {
	return api.Nat(strings.TrimLeft(string(a), "\x00"))
}
