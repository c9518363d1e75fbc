package weight

import (
	"iter"
	"slices"

	"sortes/api"
	"sortes/group"
)

// Join returns the value at 0 that the first need shares that count lead to, and true; 0 and false, if there are not as many, or need is less than 1. A share counts if its numbers fit, and no share before it that counts has its point.
func Join(need int, l []api.Share) (int, bool) {
	points, numbers, ok := first(need, l, isResidue)
	if !ok {
		return 0, false
	}
	return sum(points, numbers), true
}

// Lift is Join for shares whose numbers are members of the group, to the power of whose factors they are multiplied.
func Lift(need int, l []api.Share) (int, bool) {
	points, numbers, ok := first(need, l, group.Member)
	if !ok {
		return 0, false
	}
	return fold(1, factors(points), func(product, i, factor int) int {
		return lift(product, numbers[i], factor)
	}), true
}

// Share returns the sum modulo Q of the numbers of l, times the factors of the points in from, and true; 0 and false, if these are no points, or not different, or there are none, or not as many as numbers.
func Share(from []int, l []int) (int, bool) {
	if len(from) == 0 || len(from) != len(l) || !areDifferent(from, api.Q-1) {
		return 0, false
	}
	return sum(from, l), true
}

// first returns the points and the numbers of the first need shares that count, and true; nothing and false, if there are not as many, or need is less than 1.
func first(need int, l []api.Share, fits func(y int) bool) (points, numbers []int, ok bool) {
	if need < 1 {
		return nil, nil, false
	}
	seen := map[int]bool{}
	for _, s := range l {
		if s.X < 1 || s.X >= api.Q || seen[s.X] || !fits(s.Y) {
			continue
		}
		seen[s.X] = true
		points, numbers = append(points, s.X), append(numbers, s.Y)
		if len(points) == need {
			return points, numbers, true
		}
	}
	return nil, nil, false
}

// sum returns the sum modulo Q of the numbers, times the factors of the points.
func sum(points, numbers []int) int {
	return fold(0, factors(points), func(sum, i, factor int) int {
		return group.Add(sum, group.Mul(numbers[i], factor, api.Q), api.Q)
	})
}

// lift returns the product modulo P of a product and a to the power of n.
func lift(product, a, n int) int {
	return group.Mul(product, group.Pow(a, n, api.P), api.P)
}

// factors runs through the factors of different points, each one with its place.
func factors(points []int) iter.Seq2[int, int] {
	return func(yield func(place, factor int) bool) {
		all := fold(1, slices.All(points), func(product, _, y int) int {
			return group.Mul(product, y, api.Q)
		})
		for i, x := range points {
			// All points over x are the other ones: so they need not be multiplied again for each x.
			below := fold(x, slices.All(points), func(product, j, y int) int {
				if j == i {
					return product
				}
				return group.Mul(product, group.Sub(y, x, api.Q), api.Q)
			})
			inverse, _ := group.Inv(below, api.Q)
			if !yield(i, group.Mul(all, inverse, api.Q)) {
				return
			}
		}
	}
}

// fold returns what step makes of start and the pairs of l, one after the other.
func fold[R, V any](start R, l iter.Seq2[int, V], step func(result R, place int, v V) R) R {
	for i, v := range l {
		start = step(start, i, v)
	}
	return start
}

func isResidue(y int) bool {
	return 0 <= y && y < api.Q
}

// areDifferent reports whether all numbers of l are from 1 to most, and no two of them the same.
func areDifferent(l []int, most int) bool {
	seen := map[int]bool{}
	for _, x := range l {
		if x < 1 || x > most || seen[x] {
			return false
		}
		seen[x] = true
	}
	return true
}
