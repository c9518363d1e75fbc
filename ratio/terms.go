package ratio

import (
	"sortes/api"
	"sortes/nat"
)

// The functions of this file take right numbers, and return such: to find out whether a number is right costs as much as a sum, and is done once for each argument of a call.

// number returns num / den, which are in lowest terms, with the sign that neg asks for; 0 has none.
func number(neg bool, num, den api.Nat) api.Rat {
	return api.Rat{Neg: neg && num != "", Num: num, Den: den}
}

// minus returns -a.
func minus(a api.Rat) api.Rat {
	return number(!a.Neg, a.Num, a.Den)
}

// plus returns a + b. When both are brought to the least common denominator, what divides it and the sum of the numerators divides the common part of the two denominators, which is shorter: divisors are looked for there.
func plus(a, b api.Rat) api.Rat {
	common := nat.Gcd(a.Den, b.Den)
	restA, restB := over(a.Den, common), over(b.Den, common)
	neg, num := join(a.Neg, nat.Mul(a.Num, restB), b.Neg, nat.Mul(b.Num, restA))
	left := nat.Gcd(num, common)
	return number(neg, over(num, left), nat.Mul(restA, over(b.Den, left)))
}

// join returns the sign and the size of the sum of x and y, each with its sign.
func join(negX bool, x api.Nat, negY bool, y api.Nat) (bool, api.Nat) {
	if negX == negY {
		return negX, nat.Add(x, y)
	}
	if more, ok := nat.Sub(x, y); ok {
		return negX, more
	}
	more, _ := nat.Sub(y, x)
	return negY, more
}

// times returns the product of a and b, where only the numerator of one and the denominator of the other one can have a divisor in common.
func times(a, b api.Rat) api.Rat {
	m, n := nat.Gcd(a.Num, b.Den), nat.Gcd(b.Num, a.Den)
	num := nat.Mul(over(a.Num, m), over(b.Num, n))
	den := nat.Mul(over(a.Den, n), over(b.Den, m))
	return number(a.Neg != b.Neg, num, den)
}

// over returns a / by, where by divides a.
func over(a, by api.Nat) api.Nat {
	if by == one {
		return a
	}
	whole, _, _ := nat.Quo(a, by)
	return whole
}
