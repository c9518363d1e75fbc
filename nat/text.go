package nat

import (
	"math/bits"
	"strconv"
	"strings"

	"sortes/api"
)

// Decimal numbers are read and written in pieces of pieceDigits digits, the most that a word has room for.
const (
	pieceDigits        = 19
	piece       uint64 = 10000000000000000000
)

// Text returns a in decimal, without zeros in front.
func Text(a api.Nat) string {
	var pieces []uint64
	for left := words(a); len(left) > 0; {
		var last uint64
		left, last = divideWord(left, piece)
		pieces = append(pieces, last)
	}
	if len(pieces) == 0 {
		return "0"
	}
	var text strings.Builder
	for i := len(pieces) - 1; i >= 0; i-- {
		digits := strconv.FormatUint(pieces[i], 10)
		if i < len(pieces)-1 {
			text.WriteString(strings.Repeat("0", pieceDigits-len(digits)))
		}
		text.WriteString(digits)
	}
	return text.String()
}

// Parse returns the number whose Text is s, and true; 0 and false, if there is none.
func Parse(s string) (api.Nat, bool) {
	if !decimal(s) {
		return "", false
	}
	var x []uint64
	for len(s) > 0 {
		cut := (len(s)-1)%pieceDigits + 1
		x = appendPiece(x, value(s[:cut]))
		s = s[cut:]
	}
	return number(x), true
}

// decimal reports whether s is the Text of a number.
func decimal(s string) bool {
	for _, c := range []byte(s) {
		if c < '0' || c > '9' {
			return false
		}
	}
	return s == "0" || s != "" && s[0] != '0'
}

// value returns the number of at most pieceDigits digits.
func value(digits string) uint64 {
	var n uint64
	for _, c := range []byte(digits) {
		n = 10*n + uint64(c-'0')
	}
	return n
}

// appendPiece puts the digits of another piece behind those of x.
func appendPiece(x []uint64, next uint64) []uint64 {
	carry := next
	for i, word := range x {
		high, low := bits.Mul64(word, piece)
		var over uint64
		x[i], over = bits.Add64(low, carry, 0)
		carry = high + over
	}
	return append(x, carry)
}
