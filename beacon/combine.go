package beacon

import (
	"sortes/api"
	"sortes/weight"
)

// Combine returns the value of a round, and the points of the partials that Verify does not accept, one for each; ErrArg, if the keys are not right, and ErrFew with these points, if too few others are left.
func Combine(k api.Keys, round int, l []api.Partial) (value int, bad []int, err api.Errno) {
	if !weight.Right(k) {
		return 0, nil, api.ErrArg
	}
	accepted, refused := separate(l, verifier(k, round))
	for _, p := range refused {
		bad = append(bad, p.X)
	}
	seen := map[int]bool{}
	counting, _ := separate(accepted, func(p api.Partial) bool {
		first := !seen[p.X]
		seen[p.X] = true
		return first
	})
	if len(counting) < len(k.Commits) {
		return 0, bad, api.ErrFew
	}
	// It is never false: a partial that is accepted has a point of its own now, and a member of the group as Value.
	value, _ = weight.Lift(len(k.Commits), powers(counting))
	return value, bad, api.OK
}

// separate returns those elements of l of which fits is true, and the others, both in the order of l; fits is called once for each.
func separate[T any](l []T, fits func(v T) bool) (fitting, others []T) {
	for _, v := range l {
		if fits(v) {
			fitting = append(fitting, v)
		} else {
			others = append(others, v)
		}
	}
	return fitting, others
}

// powers returns the values of partials as shares in the exponent.
func powers(l []api.Partial) []api.Share {
	var all []api.Share
	for _, p := range l {
		all = append(all, api.Share{X: p.X, Y: p.Value})
	}
	return all
}
