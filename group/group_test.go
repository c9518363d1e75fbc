package group_test

import (
	"math"
	"math/big"
	"math/rand"
	"testing"

	"sortes/group"
)

// operation is a function of two numbers modulo a third one, with what math/big makes of the numbers.
type operation struct {
	name string
	f    func(a, b, m int) int
	big  func(z, a, b *big.Int) *big.Int
}

func operations() []operation {
	return []operation{
		{"Mul", group.Mul, (*big.Int).Mul},
		{"Add", group.Add, (*big.Int).Add},
		{"Sub", group.Sub, (*big.Int).Sub},
	}
}

// operated holds the three operations for a, b and a modulus from 1 on.
func operated(t *testing.T, a, b, m int) {
	t.Helper()
	for _, o := range operations() {
		calculated(t, o.name, o.f(a, b, m), rest(o.big(new(big.Int), large(a), large(b)), m), a, b, m)
	}
}

// P4.1

func TestOperationsSmall(t *testing.T) {
	for m := 1; m <= 20; m++ {
		for a := -2*m - 1; a <= 2*m+1; a++ {
			for b := -2*m - 1; b <= 2*m+1; b++ {
				operated(t, a, b, m)
			}
		}
	}
}

func TestOperationsEdges(t *testing.T) {
	for _, m := range moduli() {
		for _, a := range edges(m) {
			for _, b := range edges(m) {
				operated(t, a, b, m)
			}
		}
	}
}

func TestOperationsRandom(t *testing.T) {
	r := rand.New(rand.NewSource(3))
	for range 20000 {
		operated(t, some(r), some(r), 1+r.Intn(1+int(r.Uint64()>>(1+r.Intn(60)))))
	}
	for _, m := range moduli() {
		for range 500 {
			operated(t, some(r), some(r), m)
		}
	}
}

// TestOperationsDigits takes factors with each single digit, and with all digits below one.
func TestOperationsDigits(t *testing.T) {
	for i := range 63 {
		for j := range 63 {
			operated(t, 1<<i, 1<<j, p)
			operated(t, 1<<i-1, -1<<j, math.MaxInt)
			operated(t, 1<<i-1, 1<<j-1, lastPrime)
		}
	}
}

func TestOperationsWithoutModulus(t *testing.T) {
	for _, m := range noModuli() {
		for _, a := range edges(m) {
			for _, b := range []int{0, 1, 2, -1, 7, m, -m, a, math.MaxInt, math.MinInt} {
				for _, o := range operations() {
					calculated(t, o.name, o.f(a, b, m), 0, a, b, m)
				}
			}
		}
	}
}

// P4.2: Pow

// exponents are those from 0 on at the borders: of the order of the group, and of the ints.
func exponents() []int {
	return []int{0, 1, 2, 3, 4, 5, 16, 63, 64, 255, 1<<32 - 1, 1 << 32, q - 1, q, q + 1, p - 1, p, p + 1, 1<<62 - 1, 1 << 62, math.MaxInt - 1, math.MaxInt}
}

// TestPowSmall holds Pow against products that are taken one by one.
func TestPowSmall(t *testing.T) {
	for m := 1; m <= 20; m++ {
		for a := -2*m - 1; a <= 2*m+1; a++ {
			want := rest(large(1), m)
			for n := range 40 {
				calculated(t, "Pow", group.Pow(a, n, m), want, a, n, m)
				want = rest(large(want*a), m)
			}
		}
	}
}

func TestPowEdges(t *testing.T) {
	for _, m := range moduli() {
		for _, a := range edges(m) {
			for _, n := range exponents() {
				calculated(t, "Pow", group.Pow(a, n, m), power(a, n, m), a, n, m)
			}
		}
	}
}

func TestPowRandom(t *testing.T) {
	r := rand.New(rand.NewSource(4))
	for range 3000 {
		a, n, m := some(r), some(r)&math.MaxInt, 1+r.Intn(math.MaxInt)
		calculated(t, "Pow", group.Pow(a, n, m), power(a, n, m), a, n, m)
		calculated(t, "Pow", group.Pow(a, n, p), power(a, n, p), a, n, p)
	}
	for i := range 63 {
		calculated(t, "Pow", group.Pow(3, 1<<i, lastPrime), power(3, 1<<i, lastPrime), 3, 1<<i, lastPrime)
	}
}

// TestPowZero holds that a power with the exponent 0 is 1, also that of 0, whose residue modulo 1 is 0.
func TestPowZero(t *testing.T) {
	for _, m := range moduli() {
		want := 1
		if m == 1 {
			want = 0
		}
		for _, a := range edges(m) {
			calculated(t, "Pow", group.Pow(a, 0, m), want, a, 0, m)
		}
	}
}

func TestPowNothing(t *testing.T) {
	for _, m := range append(moduli(), noModuli()...) {
		for _, a := range []int{0, 1, 2, -1, 4, m, m - 1, p, math.MaxInt, math.MinInt} {
			for _, n := range []int{-1, -2, -3, -64, -q, -q + 1, -p, math.MinInt + 1, math.MinInt} {
				calculated(t, "Pow", group.Pow(a, n, m), 0, a, n, m)
			}
		}
	}
	for _, m := range noModuli() {
		for _, a := range []int{0, 1, 2, -1, 4, m, -m, p, math.MaxInt, math.MinInt} {
			for _, n := range exponents() {
				calculated(t, "Pow", group.Pow(a, n, m), 0, a, n, m)
			}
		}
	}
}

// P4.2: Inv

// TestInvSmall looks for the inverse among all residues.
func TestInvSmall(t *testing.T) {
	for m := 2; m <= 60; m++ {
		for a := -2*m - 1; a <= 2*m+1; a++ {
			want := 0
			for x := range m {
				if rest(large(a*x), m) == 1 {
					want = x
				}
			}
			if got, ok := group.Inv(a, m); got != want || ok != (want != 0) {
				t.Fatalf("Inv(%d, %d) = %d, %t, not %d", a, m, got, ok, want)
			}
			inverted(t, a, m)
		}
	}
}

func TestInvEdges(t *testing.T) {
	for _, m := range moduli() {
		for _, a := range edges(m) {
			inverted(t, a, m)
		}
	}
}

func TestInvRandom(t *testing.T) {
	r := rand.New(rand.NewSource(5))
	for range 20000 {
		a, m := some(r), 1+r.Intn(1+int(r.Uint64()>>(1+r.Intn(60))))
		inverted(t, a, m)
		inverted(t, a, p)
	}
}

// TestInvLong takes neighbours of the sequence in which each number is the sum of the two before: no others need as many divisions.
func TestInvLong(t *testing.T) {
	a, m := 1, 2
	for m > 0 {
		inverted(t, a, m)
		inverted(t, -a, m)
		inverted(t, m, a)
		a, m = m, a+m
	}
	if a < math.MaxInt/2 {
		t.Errorf("the sequence ends with %d", a)
	}
}

// TestInvNothing takes numbers that have a divisor in common with the modulus.
func TestInvNothing(t *testing.T) {
	none := func(a, m int) {
		t.Helper()
		if got, ok := group.Inv(a, m); got != 0 || ok {
			t.Fatalf("Inv(%d, %d) = %d, %t", a, m, got, ok)
		}
	}
	for _, m := range moduli() {
		for _, a := range []int{0, m, -m} {
			none(a, m)
		}
		for _, d := range []int{2, 3, 5, 7} {
			if m%d == 0 && m > d {
				none(d, m)
				none(-d, m)
				none(m/d, m)
				none(m-d, m)
			}
		}
	}
	none(2*q, p-1)
	none(q, p-1)
	none(math.MinInt, 1<<62)
	for _, m := range append(noModuli(), 1) {
		for _, a := range append(edges(m), edges(p)...) {
			none(a, m)
		}
	}
}
