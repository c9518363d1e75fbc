package nat

import (
	"cmp"
	"math"
	"math/bits"
)

// divide returns the quotient of x and by, which is trimmed and not 0, and the rest, both trimmed. The rest may lie in the memory of x, which is lost.
func divide(x, by []uint64) (quotient, left []uint64) {
	if compare(x, by) < 0 {
		return nil, x
	}
	if len(by) == 1 {
		quotient, digit := divideWord(x, by[0])
		return quotient, trim([]uint64{digit})
	}
	// The estimates are good only if the highest bit of the divisor is set.
	shift := bits.LeadingZeros64(by[len(by)-1])
	left, by = shiftLeft(x, shift), trim(shiftLeft(by, shift))
	n := len(by)
	quotient = make([]uint64, len(left)-n)
	for i := len(quotient) - 1; i >= 0; i-- {
		part := left[i : i+n+1]
		digit := estimate(part, by)
		if takeProduct(part, by, digit) {
			digit--
			add(part, by)
		}
		quotient[i] = digit
	}
	return trim(quotient), shiftRight(left, shift)
}

// rest returns what divide leaves of x.
func rest(x, by []uint64) []uint64 {
	_, left := divide(x, by)
	return left
}

// estimate returns the digit of the quotient of part and by, or one more. It looks at the highest two words of by and the highest three of part, which has a word more than by and is less than by times 2 to the power of 64.
func estimate(part, by []uint64) uint64 {
	n := len(by)
	top, next := by[n-1], by[n-2]
	if part[n] >= top {
		// The quotient of the highest words does not fit into a word. The digit does, and is one of the greatest two, because top has its highest bit.
		return math.MaxUint64
	}
	digit, left := bits.Div64(part[n], part[n-1], top)
	var over uint64
	// What top leaves must suffice for the next word of the divisor; it does as soon as it does not fit into a word.
right:
	for over == 0 {
		high, low := bits.Mul64(digit, next)
		switch cmp.Compare(high, left) {
		case -1:
			break right
		case 0:
			if low <= part[n-2] {
				break right
			}
		}
		digit--
		left, over = bits.Add64(left, top, 0)
	}
	return digit
}

// takeProduct takes by times digit from part, which has a word more than by, and reports whether that was too much.
func takeProduct(part, by []uint64, digit uint64) bool {
	var carry, borrow uint64
	for i, word := range by {
		high, low := bits.Mul64(word, digit)
		low, over := bits.Add64(low, carry, 0)
		carry = high + over
		part[i], borrow = bits.Sub64(part[i], low, borrow)
	}
	n := len(by)
	part[n], borrow = bits.Sub64(part[n], carry, borrow)
	return borrow != 0
}

// divideWord divides x by a word that is not 0, in place, and returns the quotient, trimmed, and the rest.
func divideWord(x []uint64, by uint64) ([]uint64, uint64) {
	var left uint64
	for i := len(x) - 1; i >= 0; i-- {
		x[i], left = bits.Div64(left, x[i], by)
	}
	return trim(x), left
}

// gcd returns the greatest common divisor of two numbers that are not 0, and uses up their memory. It divides by nothing but 2, which is quicker than quotients of several words.
func gcd(x, y []uint64) []uint64 {
	m, n := twos(x), twos(y)
	both := min(m, n)
	x, y = shiftRight(x, m), shiftRight(y, n)
	for len(x) > 1 || len(y) > 1 {
		order := compare(x, y)
		if order == 0 {
			return shiftLeft(x, both)
		}
		if order < 0 {
			x, y = y, x
		}
		// Both are odd: their difference is even, and has no factor 2 in common with y.
		subtract(x, y)
		x = shiftRight(x, twos(x))
	}
	return shiftLeft([]uint64{gcdWord(x[0], y[0])}, both)
}

func gcdWord(x, y uint64) uint64 {
	for y != 0 {
		x, y = y, x%y
	}
	return x
}
