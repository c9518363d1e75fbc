package weight

import (
	"iter"
	"slices"

	"sortes/api"
	"sortes/deal"
	"sortes/group"
)

// Right reports whether keys have the points 1, 2, .., at least one for each member and not too many together, and as many commitments as such points need, all of them members of the group.
func Right(k api.Keys) bool {
	n := 0
	for _, points := range k.Points {
		if len(points) == 0 {
			return false
		}
		for _, x := range points {
			n++
			if x != n || n > api.MaxPoints {
				return false
			}
		}
	}
	return n > 0 && len(k.Commits) == Need(n) && !slices.ContainsFunc(k.Commits, isStranger)
}

// Begin returns the keys of members whose secret is the sum of those that are dealt to them, and true; zero keys and false, if the members are not right, or a dealing is not one for them, or there is none.
func Begin(l []api.Member, d []api.Dealing) (api.Keys, bool) {
	if len(d) == 0 {
		return api.Keys{}, false
	}
	return combine(l, d, slices.All(ones(len(d))))
}

// Again returns the keys of members to whom the secret of old keys was dealt again, by the owners of the points in from, and true; zero keys and false, if an argument does not fit, or a dealing deals another number than the share of its point.
func Again(old api.Keys, l []api.Member, from []int, d []api.Dealing) (api.Keys, bool) {
	if !Right(old) || len(from) != len(old.Commits) || len(d) != len(from) || !areDifferent(from, count(old.Points)) {
		return api.Keys{}, false
	}
	for i, x := range from {
		if len(d[i].Commits) == 0 || d[i].Commits[0] != deal.At(old.Commits, x) {
			return api.Keys{}, false
		}
	}
	return combine(l, d, factors(from))
}

// combine returns the keys of the members, whose commitments are the products of those of the dealings, each one to the power of the number that belongs to the place of its dealing, and true; zero keys and false, if the members are not right, or a dealing is not one for them.
func combine(l []api.Member, d []api.Dealing, exponents iter.Seq2[int, int]) (api.Keys, bool) {
	points, ok := Points(l)
	if !ok {
		return api.Keys{}, false
	}
	total := count(points)
	for i := range d {
		if len(d[i].Commits) != Need(total) || !deal.Check(d[i], total) {
			return api.Keys{}, false
		}
	}
	commits := fold(ones(Need(total)), exponents, func(products []int, i, exponent int) []int {
		for j, c := range d[i].Commits {
			products[j] = lift(products[j], c, exponent)
		}
		return products
	})
	return api.Keys{Commits: commits, Points: points}, true
}

// count returns the number of all points.
func count(points [][]int) int {
	return fold(0, slices.All(points), func(n, _ int, l []int) int {
		return n + len(l)
	})
}

func ones(n int) []int {
	return slices.Repeat([]int{1}, n)
}

func isStranger(a int) bool {
	return !group.Member(a)
}
