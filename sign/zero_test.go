package sign

import (
	"testing"

	"sortes/api"
)

// TestNotZero holds P5.1 and P5.2 where the scalar is 0: no text is known that has this one, so the function that Key and Sign use is called itself.
func TestNotZero(t *testing.T) {
	for n, want := range map[int]int{0: 1, 1: 1, 2: 2, 3: 3, api.Q - 1: api.Q - 1} {
		if got := notZero(n); got != want {
			t.Errorf("notZero(%d) = %d", n, got)
		}
	}
}
