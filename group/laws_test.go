package group_test

import (
	"math"
	"math/rand"
	"testing"

	"sortes/api"
	"sortes/group"
)

// P4.5

// triples calls f with numbers of all sorts, modulo all moduli.
func triples(f func(a, b, c, m int)) {
	r := rand.New(rand.NewSource(8))
	for _, m := range moduli() {
		l := edges(m)
		for range 500 {
			f(l[r.Intn(len(l))], l[r.Intn(len(l))], l[r.Intn(len(l))], m)
			f(some(r), some(r), some(r), m)
		}
	}
	for m := 1; m <= 6; m++ {
		for n := range m * m * m {
			f(n%m, n/m%m, n/m/m, m)
		}
	}
}

func TestLawsOfRings(t *testing.T) {
	mul, add, sub := group.Mul, group.Add, group.Sub
	triples(func(a, b, c, m int) {
		same := func(law string, x, y int) {
			t.Helper()
			if x != y || x < 0 || x >= m {
				t.Fatalf("%s, for %d, %d, %d modulo %d: %d and %d", law, a, b, c, m, x, y)
			}
		}
		same("a + b = b + a", add(a, b, m), add(b, a, m))
		same("(a + b) + c = a + (b + c)", add(add(a, b, m), c, m), add(a, add(b, c, m), m))
		same("a + 0 = a", add(a, 0, m), rest(large(a), m))
		same("(a - b) + b = a", add(sub(a, b, m), b, m), add(a, 0, m))
		same("a - a = 0", sub(a, a, m), 0)
		same("a b = b a", mul(a, b, m), mul(b, a, m))
		same("(a b) c = a (b c)", mul(mul(a, b, m), c, m), mul(a, mul(b, c, m), m))
		same("a (b + c) = a b + a c", mul(a, add(b, c, m), m), add(mul(a, b, m), mul(a, c, m), m))
		same("a (b - c) = a b - a c", mul(a, sub(b, c, m), m), sub(mul(a, b, m), mul(a, c, m), m))
		same("a 1 = a", mul(a, 1, m), add(a, 0, m))
		same("a (-1) = 0 - a", mul(a, -1, m), sub(0, a, m))
		same("a a = a to the power of 2", mul(a, a, m), group.Pow(a, 2, m))
	})
}

// TestLawsOfPowers holds that exponents add, and multiply.
func TestLawsOfPowers(t *testing.T) {
	triples(func(a, b, c, m int) {
		n, k := b&math.MaxInt>>1, c&math.MaxInt>>1
		if got, want := group.Pow(a, n+k, m), group.Mul(group.Pow(a, n, m), group.Pow(a, k, m), m); got != want {
			t.Fatalf("%d to the power of %d + %d modulo %d: %d and %d", a, n, k, m, got, want)
		}
		n, k = n>>31, k>>31
		if got, want := group.Pow(a, n*k, m), group.Pow(group.Pow(a, n, m), k, m); got != want {
			t.Fatalf("%d to the power of %d times %d modulo %d: %d and %d", a, n, k, m, got, want)
		}
	})
}

// TestLawsOfInverses holds that modulo a prime number every residue but 0 has an inverse, whose inverse it is.
func TestLawsOfInverses(t *testing.T) {
	r := rand.New(rand.NewSource(9))
	for _, m := range []int{2, 3, 5, 7, 97, 257, 1<<31 - 1, 1<<32 + 15, q, 1<<61 - 1, p, 1<<62 + 135, lastPrime} {
		if !large(m).ProbablyPrime(20) {
			t.Fatalf("%d is not prime", m)
		}
		residues := []int{m / 2, m - 2, m - 1}
		for range 300 {
			residues = append(residues, r.Intn(m))
		}
		for n := range min(m, 300) {
			residues = append(residues, n)
		}
		for _, a := range residues {
			inverse, ok := group.Inv(a, m)
			if ok != (a != 0) {
				t.Fatalf("Inv(%d, %d) = %d, %t", a, m, inverse, ok)
			}
			if !ok {
				continue
			}
			back, ok := group.Inv(inverse, m)
			if group.Mul(a, inverse, m) != 1 || inverse < 1 || inverse >= m || back != a || !ok {
				t.Fatalf("Inv(%d, %d) = %d, whose Inv is %d", a, m, inverse, back)
			}
			if group.Pow(a, m-2, m) != inverse {
				t.Fatalf("the power of %d with %d - 2 is not its inverse", a, m)
			}
		}
	}
}

// TestPowersOfMembers holds that they are members, and depend on the residue of the exponent alone.
func TestPowersOfMembers(t *testing.T) {
	r := rand.New(rand.NewSource(10))
	for _, a := range members() {
		for _, n := range []int{0, 1, 2, q - 2, q - 1, r.Intn(q), r.Intn(q)} {
			x := group.Pow(a, n, p)
			if !group.Member(x) {
				t.Fatalf("%d to the power of %d is no member", a, n)
			}
			for k := 1; k <= 6; k++ {
				if group.Pow(a, n+k*q, p) != x {
					t.Fatalf("%d to the power of %d, and of %d times Q more", a, n, k)
				}
			}
			if inverse, ok := group.Inv(x, p); !ok || inverse != group.Pow(a, group.Sub(0, n, q), p) || !group.Member(inverse) {
				t.Fatalf("the inverse of %d to the power of %d is %d", a, n, inverse)
			}
		}
		if group.Pow(a, q, p) != 1 || a != 1 && group.Pow(a, q-1, p) == 1 {
			t.Fatalf("the powers of %d have not the period Q", a)
		}
	}
}

func TestElementsAreMembers(t *testing.T) {
	for _, s := range texts() {
		if n := group.Element(s); !group.Member(n) || !isMember(n) {
			t.Fatalf("Element(%s) = %d", short(s), n)
		}
		if n := group.Scalar(s); n < 0 || n >= q {
			t.Fatalf("Scalar(%s) = %d", short(s), n)
		}
	}
}

// TestExamples holds the examples of the chapter.
func TestExamples(t *testing.T) {
	for _, x := range []struct {
		call      string
		got, want int
	}{
		{"Mul(P - 1, P - 1, P)", group.Mul(api.P-1, api.P-1, api.P), 1},
		{"Add(Q - 1, 5, Q)", group.Add(api.Q-1, 5, api.Q), 4},
		{"Sub(2, 5, 7)", group.Sub(2, 5, 7), 4},
		{"Mul(-1, 3, 7)", group.Mul(-1, 3, 7), 4},
		{"Mul(3, 4, 0)", group.Mul(3, 4, 0), 0},
		{"Pow(G, Q, P)", group.Pow(api.G, api.Q, api.P), 1},
		{"Pow(2, -1, 7)", group.Pow(2, -1, 7), 0},
	} {
		if x.got != x.want {
			t.Errorf("%s = %d, not %d", x.call, x.got, x.want)
		}
	}
	for _, x := range []struct {
		a, m, want int
		ok         bool
	}{{3, 7, 5, true}, {2, 4, 0, false}, {0, 7, 0, false}} {
		if got, ok := group.Inv(x.a, x.m); got != x.want || ok != x.ok {
			t.Errorf("Inv(%d, %d) = %d, %t", x.a, x.m, got, ok)
		}
	}
	if !group.Member(1) || !group.Member(4) || group.Member(2) || group.Member(0) {
		t.Error("Member of 1, 4, 2 or 0")
	}
}

// P1, R4 and R5: every call ends without a panic, for all arguments, and answers the same again.
func TestAll(t *testing.T) {
	type answers struct {
		results             [7]int
		invertible, belongs bool
	}
	all := func(a, b, m int, s string) answers {
		var x answers
		inverse, ok := group.Inv(a, m)
		x.results = [7]int{group.Mul(a, b, m), group.Add(a, b, m), group.Sub(a, b, m), group.Pow(a, b, m), inverse, group.Scalar(s), group.Element(s)}
		x.invertible, x.belongs = ok, group.Member(a)
		return x
	}
	r := rand.New(rand.NewSource(11))
	l := append(append(edges(p), noModuli()...), moduli()...)
	words := texts()
	pick := func() int {
		if r.Intn(2) == 0 {
			return some(r)
		}
		return l[r.Intn(len(l))]
	}
	for range 5000 {
		a, b, m := pick(), pick(), pick()
		s := words[r.Intn(len(words))]
		first := all(a, b, m, s)
		all(b, m, a, s+"x")
		if all(a, b, m, s) != first {
			t.Fatalf("two answers for %d, %d, %d and %s", a, b, m, short(s))
		}
		for n, x := range first.results[:5] {
			if x < 0 || x > 0 && x >= m {
				t.Fatalf("result %d for %d, %d, %d is %d", n, a, b, m, x)
			}
		}
	}
}
