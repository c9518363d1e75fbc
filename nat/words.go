package nat

import (
	"math/bits"

	"sortes/api"
)

// Inside the package a number is a slice of words of 64 bits, the least significant one first, because carries run from there. It is trimmed if its last word is not 0.

// words returns the trimmed words of a.
func words(a api.Nat) []uint64 {
	a = trimZeros(a)
	x := make([]uint64, (len(a)+7)/8)
	for i := range len(a) {
		place := len(a) - 1 - i
		x[place/8] |= uint64(a[i]) << (place % 8 * 8)
	}
	return x
}

// number returns the right number of the words x.
func number(x []uint64) api.Nat {
	text := make([]byte, 8*len(x))
	for place := range text {
		text[len(text)-1-place] = byte(x[place/8] >> (place % 8 * 8))
	}
	front := 0
	for front < len(text) && text[front] == 0 {
		front++
	}
	return api.Nat(text[front:])
}

// trim cuts the zeros off the end of x.
func trim(x []uint64) []uint64 {
	for len(x) > 0 && x[len(x)-1] == 0 {
		x = x[:len(x)-1]
	}
	return x
}

// widen returns a copy of x that has n words.
func widen(x []uint64, n int) []uint64 {
	wide := make([]uint64, n)
	copy(wide, x)
	return wide
}

// compare orders two trimmed numbers as Cmp does.
func compare(x, y []uint64) int {
	if len(x) != len(y) {
		if len(x) < len(y) {
			return -1
		}
		return 1
	}
	for i := len(x) - 1; i >= 0; i-- {
		if x[i] < y[i] {
			return -1
		}
		if x[i] > y[i] {
			return 1
		}
	}
	return 0
}

// add adds y, which has at most as many words, to x, and drops a carry out of x.
func add(x, y []uint64) {
	var carry uint64
	for i, word := range y {
		x[i], carry = bits.Add64(x[i], word, carry)
	}
	for i := len(y); carry != 0 && i < len(x); i++ {
		x[i], carry = bits.Add64(x[i], 0, carry)
	}
}

// subtract takes y from x, which is not less.
func subtract(x, y []uint64) {
	var borrow uint64
	for i, word := range y {
		x[i], borrow = bits.Sub64(x[i], word, borrow)
	}
	for i := len(y); borrow != 0; i++ {
		x[i], borrow = bits.Sub64(x[i], 0, borrow)
	}
}

// addProduct adds y times digit to x, which has room for the sum.
func addProduct(x, y []uint64, digit uint64) {
	var carry uint64
	for i, word := range y {
		high, low := bits.Mul64(word, digit)
		low, over := bits.Add64(low, carry, 0)
		high += over
		x[i], over = bits.Add64(x[i], low, 0)
		carry = high + over
	}
	for i := len(y); carry != 0; i++ {
		x[i], carry = bits.Add64(x[i], carry, 0)
	}
}

// product returns x times y.
func product(x, y []uint64) []uint64 {
	sum := make([]uint64, len(x)+len(y))
	for i, digit := range y {
		addProduct(sum[i:], x, digit)
	}
	return trim(sum)
}

// shiftLeft returns x times 2 to the power of n, in as many words as that may need.
func shiftLeft(x []uint64, n int) []uint64 {
	skip, part := n/64, n%64
	wide := make([]uint64, len(x)+skip+1)
	for i, word := range x {
		wide[i+skip] |= word << part
		wide[i+skip+1] = word >> (64 - part)
	}
	return wide
}

// shiftRight divides x by 2 to the power of n, in place, and returns it trimmed.
func shiftRight(x []uint64, n int) []uint64 {
	skip, part := min(n/64, len(x)), n%64
	for i := skip; i < len(x); i++ {
		word := x[i] >> part
		if i+1 < len(x) {
			word |= x[i+1] << (64 - part)
		}
		x[i-skip] = word
	}
	return trim(x[:len(x)-skip])
}

// twos returns how often 2 divides x, which is not 0.
func twos(x []uint64) int {
	n := 0
	for x[n] == 0 {
		n++
	}
	return 64*n + bits.TrailingZeros64(x[n])
}
