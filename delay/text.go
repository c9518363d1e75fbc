package delay

import (
	"strconv"
	"strings"

	"sortes/api"
	"sortes/nat"
)

// Save returns the text of the state of w: how many steps are done, how many there are, and the present number. That of nil is empty.
func (w *Work) Save() string {
	if w == nil {
		return ""
	}
	return "work " + strconv.Itoa(w.done) + " " + strconv.Itoa(w.all) + " " + nat.Text(w.now)
}

// Resume returns a Work in the state whose Save is s; nil and ErrForm, if there is none.
func Resume(s string) (*Work, api.Errno) {
	w := likely(strings.Split(s, " "))
	if w == nil || w.done < 0 || w.done > w.all || !isPermitted(w.all) || !isLess(w.now) || w.Save() != s {
		return nil, api.ErrForm
	}
	return w, api.OK
}

// likely returns the Work whose Save has these parts, if there is one, and otherwise nil or any Work.
func likely(parts []string) *Work {
	if len(parts) != 4 || len(parts[3]) > len(nat.Text(api.Modulus)) {
		// To parse a numeral takes long, if it is much longer than that of N.
		return nil
	}
	// What Atoi refuses, and what it takes although Save does not print it, such as 012, +12 and -0, is 0 or another number, and so is what Parse refuses: then the text differs from Save.
	done, _ := strconv.Atoi(parts[1])
	all, _ := strconv.Atoi(parts[2])
	now, _ := nat.Parse(parts[3])
	return &Work{now, done, all}
}
