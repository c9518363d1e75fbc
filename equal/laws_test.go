package equal_test

import (
	"math"
	"math/big"
	"math/rand"
	"strings"
	"testing"

	"sortes/api"
	"sortes/equal"
	"sortes/group"
)

// P6.4

// TestProvenIsVerified takes the powers from package group.
func TestProvenIsVerified(t *testing.T) {
	hold := func(secret, g, h int) {
		t.Helper()
		n := group.Add(secret, 0, api.Q)
		a, b := group.Pow(g, n, api.P), group.Pow(h, n, api.P)
		if y := equal.Prove(secret, g, h); !equal.Verify(g, a, h, b, y) {
			t.Fatalf("Verify(%d, %d, %d, %d, Prove(%d, %d, %d)) is false", g, a, h, b, secret, g, h)
		}
	}
	for _, secret := range secrets() {
		for _, h := range []int{1, 4, 16, p - 2} {
			hold(secret, 4, h)
			hold(secret, h, 4)
		}
	}
	for _, g := range members() {
		for _, h := range members() {
			hold(12345, g, h)
			hold(-1, g, h)
		}
	}
}

// TestAnyNumber holds that k may be any, also 0.
func TestAnyNumber(t *testing.T) {
	r := rand.New(rand.NewSource(6))
	for _, secret := range secrets() {
		for _, h := range []int{1, 4, p - 2} {
			x := same(secret, 16, h)
			for _, k := range []int{0, 1, 2, q - 1, r.Intn(q)} {
				verified(t, x, x.proof(k, exponent(secret)), true)
			}
		}
	}
}

// quotient returns the number from 0 to Q - 1 whose product with b has, modulo Q, the residue of a.
func quotient(a, b int) int {
	inverse := new(big.Int).ModInverse(large(exponent(b)), large(q))
	return rest(inverse.Mul(inverse, large(a)), q)
}

// TestOneChallenge looks for the numbers C that satisfy both equations, for different logarithms: there is one, and it is not the challenge.
func TestOneChallenge(t *testing.T) {
	r := rand.New(rand.NewSource(7))
	for range 60 {
		g, h := one(r, members()[1:]), one(r, members()[1:])
		n, m := r.Intn(q), r.Intn(q)
		k, l := r.Intn(q), r.Intn(q)
		if r.Intn(3) == 0 {
			l = k
		}
		x := statement{g, power(g, n), h, power(h, m)}
		only := quotient(l-k, n-m)
		if (only == 0) != (k == l) {
			t.Fatalf("C is %d for %d and %d", only, k, l)
		}
		for _, c := range []int{only, 0, 1, only + 1, q - 1, r.Intn(q), x.challenge(power(g, k), power(h, l))} {
			// Each other Z breaks the equation of g.
			y := api.Proof{C: c, Z: answer(k, c, n)}
			both := side(g, x.a, y) == power(g, k) && side(h, x.b, y) == power(h, l)
			if both != (c == only) {
				t.Fatalf("the equations of %v and %v: %t", x, y, both)
			}
			verified(t, x, y, false)
		}
	}
}

func TestReadUndoesText(t *testing.T) {
	hold := func(y api.Proof) {
		t.Helper()
		if back, ok := equal.Read(equal.Text(y)); !ok || back != y {
			t.Fatalf("Read(%s) = %v, %t", equal.Text(y), back, ok)
		}
	}
	for _, secret := range secrets() {
		hold(equal.Prove(secret, 4, 16))
	}
	r := rand.New(rand.NewSource(8))
	for range 3000 {
		hold(api.Proof{C: some(r), Z: some(r)})
	}
}

// TestExamples holds the examples of the chapter.
func TestExamples(t *testing.T) {
	if !equal.Verify(4, 64, 16, 4096, equal.Prove(3, 4, 16)) {
		t.Error("the proof for 64 and 4096")
	}
	if equal.Verify(4, 64, 16, 256, equal.Prove(3, 4, 16)) {
		t.Error("the proof for 64 and 256")
	}
	if y := equal.Prove(3, 0, 16); y != (api.Proof{}) {
		t.Errorf("Prove(3, 0, 16) = %v", y)
	}
	if s := equal.Text(api.Proof{C: 12, Z: 3}); s != "12.3" {
		t.Errorf("Text({12, 3}) = %s", s)
	}
	if y, ok := equal.Read("12.3"); !ok || y != (api.Proof{C: 12, Z: 3}) {
		t.Errorf("Read(12.3) = %v, %t", y, ok)
	}
	if y, ok := equal.Read("012.3"); ok || y != (api.Proof{}) {
		t.Errorf("Read(012.3) = %v, %t", y, ok)
	}
}

// P1 and R3 to R5: every call ends without a panic, for all arguments, and answers the same again.
func TestAll(t *testing.T) {
	type answers struct {
		proof, read  api.Proof
		text         string
		verified, ok bool
	}
	all := func(x statement, secret int, y api.Proof, s string) answers {
		var a answers
		a.proof = equal.Prove(secret, x.g, x.h)
		a.verified = equal.Verify(x.g, x.a, x.h, x.b, y)
		a.text = strings.Clone(equal.Text(y))
		a.read, a.ok = equal.Read(s)
		return a
	}
	r := rand.New(rand.NewSource(9))
	numbers := append(append(append(members(), strangers()...), secrets()...), edges()...)
	words := []string{"", "12.3", "-1.0", "1.-1", ".", "a", "\xff", strings.Repeat("9", 1000) + ".1"}
	for range 3000 {
		x := statement{one(r, numbers), one(r, numbers), one(r, numbers), one(r, numbers)}
		secret, y := one(r, numbers), api.Proof{C: one(r, numbers), Z: one(r, numbers)}
		if r.Intn(3) == 0 {
			x = same(secret, one(r, members()), one(r, members()))
			y = equal.Prove(secret, x.g, x.h)
		}
		s := one(r, append(words, equal.Text(y)))
		first := all(x, secret, y, s)
		all(statement{x.h, x.b, x.g, x.a}, secret+1, first.proof, s+"x")
		if all(x, secret, y, s) != first {
			t.Fatalf("two answers for %v, %d, %v and %q", x, secret, y, s)
		}
		if c, z := first.proof.C, first.proof.Z; c < 0 || c >= q || z < 0 || z >= q {
			t.Fatalf("Prove(%d, %d, %d) = %v", secret, x.g, x.h, first.proof)
		}
		if first.verified != x.accepted(y) {
			t.Fatalf("Verify of %v and %v = %t", x, y, first.verified)
		}
	}
	for _, n := range []int{math.MinInt, math.MaxInt} {
		all(statement{n, n, n, n}, n, api.Proof{C: n, Z: n}, "")
	}
}
