package digest

import (
	"strings"

	"sortes/api"
)

// digits are those of the texts of hashes.
const digits = "0123456789abcdef"

// Text returns the 64 digits of h in hexadecimal, in the order of the bytes.
func Text(h api.Hash) string {
	var text []byte
	for _, b := range h {
		text = append(text, digits[b/16], digits[b%16])
	}
	return string(text)
}

// Read returns the hash whose text is s, and true; the zero hash and false, if there is none.
func Read(s string) (api.Hash, bool) {
	var h api.Hash
	if len(s) != 2*len(h) {
		return api.Hash{}, false
	}
	for i := range h {
		high := strings.IndexByte(digits, s[2*i])
		low := strings.IndexByte(digits, s[2*i+1])
		if high < 0 || low < 0 {
			return api.Hash{}, false
		}
		h[i] = byte(16*high + low)
	}
	return h, true
}

// Less reports whether a is less than b, byte by byte from the first one on.
func Less(a, b api.Hash) bool {
	if a == b {
		return false
	}
	i := 0
	for a[i] == b[i] {
		i++
	}
	return a[i] < b[i]
}
