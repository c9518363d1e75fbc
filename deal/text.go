package deal

import (
	"strconv"
	"strings"

	"sortes/api"
)

// digits are those of the bytes of a box.
const digits = "0123456789abcdef"

// Text returns the text of d: the number of Commits, the Commits, Point, and the bytes of each box in hexadecimal.
func Text(d api.Dealing) string {
	var text strings.Builder
	write := text.WriteString
	write("deal")
	part := func(s string) {
		write(" ")
		write(s)
	}
	part(strconv.Itoa(len(d.Commits)))
	for _, c := range d.Commits {
		part(strconv.Itoa(c))
	}
	part(strconv.Itoa(d.Point))
	for _, s := range d.Boxes {
		part(hexadecimal(s))
	}
	return text.String()
}

// Read returns the dealing whose Text is s, and true; the zero dealing and false, if there is none.
func Read(s string) (api.Dealing, bool) {
	// What is read of a text that is no dealing's is one whose Text is not s.
	if d := likely(strings.Split(s, " ")); Text(d) == s {
		return d, true
	}
	return api.Dealing{}, false
}

// likely returns the dealing whose Text has these parts, if there is one, and otherwise any dealing.
func likely(parts []string) api.Dealing {
	// The other parts are the word in front, the number of commitments, and Point.
	most := len(parts) - 3
	if most < 0 {
		return api.Dealing{}
	}
	var d api.Dealing
	n := min(max(number(parts[1]), 0), most)
	for _, s := range parts[2 : 2+n] {
		d.Commits = append(d.Commits, number(s))
	}
	d.Point = number(parts[2+n])
	for _, s := range parts[3+n:] {
		d.Boxes = append(d.Boxes, bytesOf(s))
	}
	return d
}

// number returns the number whose text is s, if there is one, and otherwise any number.
func number(s string) int {
	n, _ := strconv.Atoi(s)
	return n
}

// hexadecimal returns the text of the bytes of a box.
func hexadecimal(s string) string {
	var text []byte
	for i := range len(s) {
		text = append(text, digits[s[i]/16], digits[s[i]%16])
	}
	return string(text)
}

// bytesOf returns the bytes whose text is s, if there are any, and otherwise other ones.
func bytesOf(s string) string {
	var b []byte
	for i := 1; i < len(s); i += 2 {
		// The digit -1, for a character that is none, makes a byte, too; its text differs from s.
		high, low := strings.IndexByte(digits, s[i-1]), strings.IndexByte(digits, s[i])
		b = append(b, byte(16*high+low))
	}
	return string(b)
}
