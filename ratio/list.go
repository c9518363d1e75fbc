package ratio

import (
	"slices"

	"sortes/api"
	"sortes/nat"
)

// Sum returns the sum of all elements, 0 for none.
func Sum(l []api.Rat) api.Rat {
	return fold(l, zero, func(sum, a api.Rat) api.Rat { return plus(sum, valid(a)) })
}

// Common returns the least d greater than 0 that makes all elements whole numbers, d times each of them, and true; false, if an element is not right, or negative.
func Common(l []api.Rat) (api.Nat, []api.Nat, bool) {
	if slices.ContainsFunc(l, span{negative: false}.excludes) {
		return "", nil, false
	}
	d := fold(l, one, func(d api.Nat, a api.Rat) api.Nat {
		return nat.Mul(over(d, nat.Gcd(d, a.Den)), a.Den)
	})
	whole := make([]api.Nat, len(l))
	for i, a := range l {
		whole[i] = nat.Mul(a.Num, over(d, a.Den))
	}
	return d, whole, true
}

// fold takes a step from first for each element of l, in order, and returns where they lead.
func fold[A, E any](l []E, first A, step func(A, E) A) A {
	at := first
	for _, e := range l {
		at = step(at, e)
	}
	return at
}
