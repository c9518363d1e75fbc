package delay

import (
	"sortes/api"
	"sortes/nat"
)

// Next returns the half of d that is still disputed, after one side has said a, and the other one b, for the step in its middle; d itself, if it has no middle, or is not in range.
func Next(d api.Dispute, a, b api.Nat) api.Dispute {
	// High is looked at first: so nothing wraps around.
	if d.High < 2 || d.High > api.MaxSquares || d.Low < 0 || d.Low > d.High-2 {
		return d
	}
	mid := d.Low + (d.High-d.Low)/2
	if areEqual(a, b) {
		d.Low, d.From = mid, a
	} else {
		d.High, d.A, d.B = mid, a, b
	}
	return d
}

// Decide returns 1 or 2, if the first or the second side is wrong about the one step of d, and 3, if both are; 0, if there is more than one step, or nothing is disputed.
func Decide(d api.Dispute) int {
	if d.Low != d.High-1 || areEqual(d.A, d.B) {
		return 0
	}
	y := Square(d.From)
	switch {
	case areEqual(d.B, y):
		return 1
	case areEqual(d.A, y):
		return 2
	}
	return 3
}

func areEqual(a, b api.Nat) bool {
	return nat.Cmp(a, b) == 0
}
