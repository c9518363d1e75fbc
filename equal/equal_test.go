package equal_test

import (
	"math"
	"math/rand"
	"testing"

	"sortes/api"
	"sortes/equal"
)

// P6.1

func TestProve(t *testing.T) {
	for _, secret := range secrets() {
		for _, g := range []int{1, 4, p - 2} {
			for _, h := range []int{1, 4, 16, 853158240773403587} {
				proved(t, secret, g, h)
			}
		}
	}
	for _, g := range members() {
		for _, h := range members() {
			proved(t, 12345, g, h)
		}
	}
}

// TestProvePublished holds proofs that were computed without Go.
func TestProvePublished(t *testing.T) {
	for _, x := range []struct {
		secret, g, h int
		want         api.Proof
	}{
		{0, 4, 16, api.Proof{C: 1091179817776295124, Z: 364888194501416189}},
		{0, 1, 1, api.Proof{C: 108602559963279838, Z: 369052847070255807}},
		{1, 4, 16, api.Proof{C: 286366838332395892, Z: 203034910722305272}},
		{1, 4, 4, api.Proof{C: 247822855559755705, Z: 550392716887161525}},
		{1, 1, 4, api.Proof{C: 279618551069292021, Z: 345897183138945708}},
		{1, 4, 1, api.Proof{C: 709571791890578819, Z: 882021400342330951}},
		{3, 4, 16, api.Proof{C: 435937659163829742, Z: 489630195527191823}},
		{3, 4, 4, api.Proof{C: 508351586835451970, Z: 1085784411815534936}},
		{-1, 4, 16, api.Proof{C: 1046629501990415973, Z: 136675135263452890}},
		{api.Q - 1, 4, 16, api.Proof{C: 1046629501990415973, Z: 136675135263452890}},
		{api.Q, 4, 16, api.Proof{C: 1091179817776295124, Z: 364888194501416189}},
		{api.P, 4, 16, api.Proof{C: 286366838332395892, Z: 203034910722305272}},
		{12345, api.P - 2, 853158240773403587, api.Proof{C: 38957809212342651, Z: 281006069720856797}},
		{math.MaxInt, 4, 16, api.Proof{C: 522094667024705862, Z: 615595166675380160}},
		{math.MinInt, 4, 4, api.Proof{C: 53325714244387827, Z: 5725946167651687}},
		{math.MinInt, api.P - 2, 853158240773403587, api.Proof{C: 1046001953509759089, Z: 929720498596400717}},
	} {
		if got := equal.Prove(x.secret, x.g, x.h); got != x.want {
			t.Errorf("Prove(%d, %d, %d) = %v, not %v", x.secret, x.g, x.h, got, x.want)
		}
	}
}

// TestProveExponent holds that secrets with one exponent lead to one proof.
func TestProveExponent(t *testing.T) {
	for _, x := range []int{0, 1, 2, 12345, q - 1} {
		for _, h := range []int{1, 4, p - 2} {
			want := equal.Prove(x, 4, h)
			for k := -7; k <= 6; k++ {
				if got := equal.Prove(x+k*q, 4, h); got != want {
					t.Fatalf("Prove(%d + %d Q, 4, %d) = %v, not %v", x, k, h, got, want)
				}
			}
		}
	}
}

func TestProveNoMember(t *testing.T) {
	none := func(secret, g, h int) {
		t.Helper()
		if got := equal.Prove(secret, g, h); got != (api.Proof{}) {
			t.Fatalf("Prove(%d, %d, %d) = %v", secret, g, h, got)
		}
	}
	l := strangers()
	for i, a := range l {
		if belongs(a) {
			t.Fatalf("%d is a member", a)
		}
		for _, secret := range []int{0, 1, 3, -1, q, math.MaxInt, math.MinInt} {
			for _, b := range []int{1, 4, 16, p - 2} {
				none(secret, a, b)
				none(secret, b, a)
			}
			none(secret, a, a)
			none(secret, a, l[(i+7)%len(l)])
		}
	}
}

// P6.2

func TestVerify(t *testing.T) {
	for _, secret := range secrets() {
		for _, h := range []int{1, 4, 16, p - 2} {
			verified(t, same(secret, 4, h), proof(secret, 4, h), true)
		}
	}
	for _, g := range members() {
		for _, h := range members() {
			verified(t, same(12345, g, h), proof(12345, g, h), true)
		}
	}
}

// TestVerifyChanged changes each digit of the numbers and of the proof.
func TestVerifyChanged(t *testing.T) {
	for _, secret := range []int{1, 3, -5, 12345} {
		for _, h := range []int{4, 16, p - 2} {
			x, y := same(secret, 4, h), proof(secret, 4, h)
			for i := range 64 {
				change := 1 << i
				verified(t, statement{x.g ^ change, x.a, x.h, x.b}, y, false)
				verified(t, statement{x.g, x.a ^ change, x.h, x.b}, y, false)
				verified(t, statement{x.g, x.a, x.h ^ change, x.b}, y, false)
				verified(t, statement{x.g, x.a, x.h, x.b ^ change}, y, false)
				verified(t, x, api.Proof{C: y.C ^ change, Z: y.Z}, false)
				verified(t, x, api.Proof{C: y.C, Z: y.Z ^ change}, false)
			}
			verified(t, x, api.Proof{C: y.Z, Z: y.C}, false)
			verified(t, x, api.Proof{C: y.C}, false)
			verified(t, x, api.Proof{Z: y.Z}, false)
			verified(t, x, api.Proof{}, false)
			verified(t, x, proof(secret+1, 4, h), false)
			verified(t, x, proof(-secret, 4, h), false)
		}
	}
}

// TestVerifyMembers puts other members in the place of each number.
func TestVerifyMembers(t *testing.T) {
	x, y := same(12345, 9, p-2), proof(12345, 9, p-2)
	for _, n := range members() {
		for _, other := range []statement{{n, x.a, x.h, x.b}, {x.g, n, x.h, x.b}, {x.g, x.a, n, x.b}, {x.g, x.a, x.h, n}} {
			verified(t, other, y, other == x)
		}
	}
}

// TestVerifyOrder puts the numbers in other orders, for which only a proof of their own is accepted.
func TestVerifyOrder(t *testing.T) {
	x, y := same(3, 4, 9), proof(3, 4, 9)
	l := x.numbers()
	for i := range 256 {
		other := statement{l[i&3], l[i>>2&3], l[i>>4&3], l[i>>6]}
		verified(t, other, y, other == x)
	}
	verified(t, statement{x.h, x.b, x.g, x.a}, proof(3, 9, 4), true)
}

// TestVerifyRange adds multiples of Q to C and Z, which leave the powers of members as they are.
func TestVerifyRange(t *testing.T) {
	for _, secret := range []int{0, 1, 12345} {
		for _, h := range []int{1, 4, 16, p - 2} {
			x, y := same(secret, 4, h), proof(secret, 4, h)
			for k := -7; k <= 6; k++ {
				verified(t, x, api.Proof{C: y.C, Z: y.Z + k*q}, k == 0)
				verified(t, x, api.Proof{C: y.C + k*q, Z: y.Z}, k == 0)
				verified(t, x, api.Proof{C: y.C + k*q, Z: y.Z + k*q}, k == 0)
			}
		}
	}
	// The logarithm 0 leads to each Z, if k is the same one.
	for _, h := range []int{1, 4, 16} {
		x := same(0, 4, h)
		for _, c := range []struct {
			z    int
			want bool
		}{{0, true}, {1, true}, {q - 2, true}, {q - 1, true}, {-1, false}, {-q, false}, {q, false}, {q + 1, false}, {2*q - 1, false}, {2 * q, false}, {p, false}, {math.MaxInt, false}, {math.MinInt, false}} {
			verified(t, x, api.Proof{C: x.proof(exponent(c.z), 0).C, Z: c.z}, c.want)
		}
	}
}

// TestVerifyNegative takes the challenges of powers that are 0, as group.Pow makes them of negative exponents.
func TestVerifyNegative(t *testing.T) {
	for _, secret := range []int{0, 1, 12345} {
		for _, h := range []int{1, 4, 16, p - 2} {
			x := same(secret, 4, h)
			c := x.challenge(0, 0)
			for _, n := range []int{-1, -2, -c, -q, -q - 1, -p, math.MinInt, math.MinInt + 1} {
				verified(t, x, api.Proof{C: c, Z: n}, false)
				verified(t, x, api.Proof{C: n, Z: c}, false)
				verified(t, x, api.Proof{C: n, Z: n}, false)
			}
			for _, n := range []int{0, c, q, q + 1, q + c, 2 * q, p, math.MaxInt} {
				verified(t, x, api.Proof{C: c, Z: n}, false)
				verified(t, x, api.Proof{C: n, Z: c}, false)
				verified(t, x, api.Proof{C: n, Z: n}, false)
			}
		}
	}
}

// forged returns a proof that fits, for a statement of which only the residues modulo P, up to their signs, need be powers with the exponent x, or 0.
func forged(t *testing.T, st statement, x int) api.Proof {
	t.Helper()
	for k := range 200 {
		r, s := power(st.g, k), power(st.h, k)
		for _, r := range []int{r, p - r, 0} {
			for _, s := range []int{s, p - s, 0} {
				c := st.challenge(r, s)
				if y := (api.Proof{C: c, Z: answer(k, c, x)}); st.fits(y) {
					return y
				}
			}
		}
	}
	t.Fatalf("no proof fits %v", st)
	return api.Proof{}
}

// TestVerifyNoMember takes numbers that are no members, with proofs that fit but for this.
func TestVerifyNoMember(t *testing.T) {
	likes := []func(n int) int{
		func(n int) int { return n },
		func(n int) int { return p - n },
		func(n int) int { return -n },
		func(n int) int { return n + p },
		func(n int) int { return n - p },
		func(n int) int { return n + 2*p },
		func(n int) int { return 0 },
		func(n int) int { return p },
	}
	for _, secret := range []int{0, 1, 12345} {
		x := same(secret, 4, p-2)
		for i := range 4 * len(likes) {
			l := x.numbers()
			l[i%4] = likes[i/4](l[i%4])
			changed := statement{l[0], l[1], l[2], l[3]}
			verified(t, changed, forged(t, changed, exponent(secret)), i/4 == 0)
		}
		r := rand.New(rand.NewSource(3))
		for range 300 {
			var l [4]int
			for i, n := range x.numbers() {
				l[i] = one(r, likes)(n)
			}
			changed := statement{l[0], l[1], l[2], l[3]}
			verified(t, changed, forged(t, changed, exponent(secret)), changed == x)
		}
	}
}

// TestVerifyStrangers takes numbers at the borders, with all sorts of proofs.
func TestVerifyStrangers(t *testing.T) {
	x := same(3, 4, 16)
	proofs := []api.Proof{{}, {C: 1}, {Z: 1}, {C: 1, Z: 1}, {C: q - 1, Z: q - 1}, {C: q, Z: q}, {C: -1, Z: -1}, {C: math.MinInt, Z: math.MaxInt}, proof(3, 4, 16)}
	for _, n := range strangers() {
		for _, y := range append(proofs, equal.Prove(3, n, 16), equal.Prove(3, 4, n), equal.Prove(n, 4, 16)) {
			verified(t, statement{n, x.a, x.h, x.b}, y, false)
			verified(t, statement{x.g, n, x.h, x.b}, y, false)
			verified(t, statement{x.g, x.a, n, x.b}, y, false)
			verified(t, statement{x.g, x.a, x.h, n}, y, false)
			verified(t, statement{n, n, n, n}, y, false)
		}
	}
}

// TestVerifyLogarithms takes numbers with different logarithms.
func TestVerifyLogarithms(t *testing.T) {
	for _, h := range []int{4, 16, p - 2} {
		for _, e := range [][2]int{{3, 4}, {0, 1}, {1, 0}, {1, q - 1}, {12345, 54321}} {
			x := statement{4, power(4, e[0]), h, power(h, e[1])}
			verified(t, x, proof(e[0], 4, h), false)
			verified(t, x, proof(e[1], 4, h), false)
			for k := range 20 {
				// Each one makes the equation of one side true.
				verified(t, x, x.proof(k, e[0]), false)
				verified(t, x, x.proof(k, e[1]), false)
			}
		}
	}
}

// TestVerifyOne takes the base 1, of which only 1 is a power, with any exponent.
func TestVerifyOne(t *testing.T) {
	for _, n := range []int{0, 1, 3, 12345, q - 1} {
		for _, h := range []int{1, 4, p - 2} {
			verified(t, statement{1, 1, h, power(h, n)}, proof(n, 1, h), true)
			verified(t, statement{h, power(h, n), 1, 1}, proof(n, h, 1), true)
			verified(t, statement{1, 4, h, power(h, n)}, proof(n, 1, h), false)
			verified(t, statement{h, power(h, n), 1, 4}, proof(n, h, 1), false)
		}
	}
}

func TestVerifyRandom(t *testing.T) {
	r := rand.New(rand.NewSource(4))
	l := members()
	found := 0
	for range 2000 {
		secret, g, h := some(r), one(r, l), one(r, l)
		x, y := same(secret, g, h), proof(secret, g, h)
		if r.Intn(8) == 0 {
			x.a = one(r, l)
		}
		if r.Intn(8) == 0 {
			x.b = power(h, r.Intn(q))
		}
		if r.Intn(8) == 0 {
			y.C = r.Intn(q)
		}
		if r.Intn(8) == 0 {
			y.Z = some(r)
		}
		want := x.accepted(y)
		verified(t, x, y, want)
		if want {
			found++
		}
	}
	if found < 400 || found > 1600 {
		t.Errorf("%d of 2000 proofs were accepted", found)
	}
}
