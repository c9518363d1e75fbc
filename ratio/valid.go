package ratio

import "sortes/api"

// span is a part of the right numbers: all of them, or those that are not negative.
type span struct{ negative bool }

// excludes reports whether a is not right, or outside the span.
func (s span) excludes(a api.Rat) bool {
	return !Right(a) || a.Neg && !s.negative
}

// valid returns the right number as which a counts.
func valid(a api.Rat) api.Rat {
	if (span{negative: true}).excludes(a) {
		return zero
	}
	return a
}
