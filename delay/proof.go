package delay

import (
	"iter"
	"math/bits"
	"strconv"

	"sortes/api"
	"sortes/digest"
	"sortes/nat"
)

// Prove returns what t squarings make of x, the middles that prove it, and true; 0, nothing and false, if t is not a power of 2 from 1 to MaxSquares.
func Prove(x api.Nat, t int) (y api.Nat, middles []api.Nat, ok bool) {
	if !isLength(t) {
		return "", nil, false
	}
	y = steps(t).run(x)
	from, to := rest(x), y
	for n := range lengths(t) {
		half := steps(n / 2).run
		m := half(from)
		middles = append(middles, m)
		from, to = halve(from, to, m, n)
	}
	return y, middles, true
}

// Verify reports whether the middles prove that t squarings make y of x, where all numbers are less than N.
func Verify(x, y api.Nat, t int, middles []api.Nat) bool {
	if !isLength(t) || len(middles) != bits.Len(uint(t))-1 || !areReduced(x, y) || !areReduced(middles...) {
		return false
	}
	for n := range lengths(t) {
		x, y = halve(x, y, middles[0], n)
		middles = middles[1:]
	}
	return y == Square(x)
}

// isLength reports whether there are proofs of t steps.
func isLength(t int) bool {
	return 1 <= t && t <= api.MaxSquares && bits.OnesCount(uint(t)) == 1
}

// lengths runs through the numbers of steps that are halved in a proof of t steps: t, the half of it, and so on down to 2.
func lengths(t int) iter.Seq[int] {
	return func(yield func(n int) bool) {
		for n := t; n > 1 && yield(n); n /= 2 {
		}
	}
}

// halve returns the numbers of which half as many steps are to be proved as the t steps from x to y, with m in the middle.
func halve(x, y, m api.Nat, t int) (api.Nat, api.Nat) {
	r := challenge(x, y, m, t)
	return product(m, power(x, r)), product(y, power(m, r))
}

// challenge returns a number that nobody can choose together with m.
func challenge(x, y, m api.Nat, t int) api.Nat {
	h := digest.Sum("delay/" + nat.Text(x) + "/" + nat.Text(y) + "/" + nat.Text(m) + "/" + strconv.Itoa(t))
	return api.Nat(h[:8])
}

// areReduced reports whether all numbers of l are right, and less than N.
func areReduced(l ...api.Nat) bool {
	for _, x := range l {
		if !nat.Right(x) || !isLess(x) {
			return false
		}
	}
	return true
}

func isLess(x api.Nat) bool {
	return nat.Cmp(x, api.Modulus) < 0
}
