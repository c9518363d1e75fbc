package deal

import (
	"strconv"

	"sortes/digest"
)

// half is the number of bytes in each half of a box.
const half = 8

// box is what a number is sealed in: its bytes, combined with those of a pad, and the bytes that show whether it is opened with the right pad.
type box [2 * half]byte

// pad returns as much of the pad of a number and an index as a box needs: the box in which 0 is sealed.
func pad(number, index int) box {
	h := digest.Sum("box/" + strconv.Itoa(number) + "/" + strconv.Itoa(index))
	var b box
	copy(b[:], h[:])
	return b
}

// seal returns the bytes of the box in which y is sealed with the pad.
func (b box) seal(y int) string {
	for i := range half {
		b[half-1-i] ^= byte(y >> (8 * i))
	}
	return string(b[:])
}

// open returns what is sealed in s with the pad, and true; 0 and false, if the pad does not open it.
func (b box) open(s string) (int, bool) {
	if len(s) != len(b) || s[half:] != string(b[half:]) {
		return 0, false
	}
	content := 0
	for i := range half {
		content = content<<8 | int(s[i]^b[i])
	}
	return content, true
}
