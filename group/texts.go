package group

import (
	"math"

	"sortes/api"
	"sortes/digest"
)

// Member reports whether a is a member of the group: from 1 to P - 1, with the power 1 for the exponent Q.
func Member(a int) bool {
	return 0 < a && a < api.P && Pow(a, api.Q, api.P) == 1
}

// Scalar returns a number from 0 to Q - 1 that belongs to s.
func Scalar(s string) int {
	return number(digest.Sum("s/"+s)) % api.Q
}

// Element returns the member of the group that belongs to s: the square of a number from 1 to P - 1.
func Element(s string) int {
	root := 1 + number(digest.Sum("e/"+s))%(api.P-1)
	return Mul(root, root, api.P)
}

// number returns the number whose digits to the base 256 are the first 8 bytes of h, without the first binary digit, which an int has no place for.
func number(h api.Hash) int {
	n := 0
	for _, digit := range h[:8] {
		n = n<<8 | int(digit)
	}
	return n & math.MaxInt
}
