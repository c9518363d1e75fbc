package nat

import (
	"iter"

	"sortes/api"
)

// Pow returns the rest of a to the power of e when it is divided by m, and true; 0 and false, if m is 0.
func Pow(a, e, m api.Nat) (api.Nat, bool) {
	by := words(m)
	if len(by) == 0 {
		return "", false
	}
	if by[0]%2 == 1 {
		return number(powOdd(words(a), by, e)), true
	}
	times := func(x, y []uint64) []uint64 { return rest(product(x, y), by) }
	return number(raise([]uint64{1}, rest(words(a), by), e, times)), true
}

// powOdd computes with the rests of the numbers times 2 to the power of 64 n, where n is the number of words of m: Montgomery products of those need no division.
func powOdd(a, m []uint64, e api.Nat) []uint64 {
	n := len(m)
	factor := factorOf(m[0])
	lift := func(x []uint64) []uint64 { return widen(rest(trim(shiftLeft(x, 64*n)), m), n) }
	times := func(x, y []uint64) []uint64 { return montgomery(x, y, m, factor) }
	one := []uint64{1}
	power := raise(lift(one), lift(a), e, times)
	return times(power, widen(one, n))
}

// raise multiplies one by base e times, with the product that is given.
func raise(one, base []uint64, e api.Nat, times func(x, y []uint64) []uint64) []uint64 {
	power := one
	for set := range digits(e) {
		power = times(power, power)
		if set {
			power = times(power, base)
		}
	}
	return power
}

// digits runs through the digits of e to the base 2, the most significant one first, and says which are 1.
func digits(e api.Nat) iter.Seq[bool] {
	return func(yield func(bool) bool) {
		for place := Bits(e) - 1; place >= 0; place-- {
			digit := e[len(e)-1-place/8] >> (place % 8) & 1
			if !yield(digit == 1) {
				return
			}
		}
	}
}

// montgomery returns the product of x and y, both less than m, divided by 2 to the power of 64 n modulo m. All of them have n words.
func montgomery(x, y, m []uint64, factor uint64) []uint64 {
	n := len(m)
	sum := make([]uint64, 2*n+1)
	for i, digit := range y {
		addProduct(sum[i:], x, digit)
		addProduct(sum[i:], m, sum[i]*factor) // after which the word i is 0
	}
	sum = sum[n:]
	if compare(trim(sum), m) >= 0 {
		subtract(sum, m)
	}
	return sum[:n]
}

// factorOf returns the number that makes -1, multiplied by an odd word. Each step of Newton's method doubles the number of its bits that are right, of which odd itself gives 3.
func factorOf(odd uint64) uint64 {
	inverse := odd
	for range 5 {
		inverse *= 2 - odd*inverse
	}
	return -inverse
}
