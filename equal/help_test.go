package equal_test

import (
	"crypto/sha256"
	"encoding/binary"
	"math"
	"math/big"
	"math/rand"
	"slices"
	"strconv"
	"strings"
	"testing"

	"sortes/api"
	"sortes/equal"
)

// The tests hold the package against crypto/sha256, encoding/binary and math/big, through its exported functions only.

// P and Q as ints, so that sums of them wrap around where the tests want it.
var (
	p = api.P
	q = api.Q
)

func large(n int) *big.Int {
	return big.NewInt(int64(n))
}

// rest returns the number from 0 to m - 1 that differs from v by a multiple of m.
func rest(v *big.Int, m int) int {
	return int(new(big.Int).Mod(v, large(m)).Int64())
}

// times returns the residue modulo P of a product.
func times(a, b int) int {
	return rest(new(big.Int).Mul(large(a), large(b)), p)
}

// power returns the residue modulo P of a power with an exponent from 0 on.
func power(a, n int) int {
	return int(new(big.Int).Exp(large(rest(large(a), p)), large(n), large(p)).Int64())
}

// belongs says by the words of chapter 4 whether a is a member of the group.
func belongs(a int) bool {
	return a >= 1 && a <= p-1 && power(a, q) == 1
}

// scalar returns by the words of chapter 4 the number of a text.
func scalar(s string) int {
	h := sha256.Sum256([]byte("s/" + s))
	return int(binary.BigEndian.Uint64(h[:8]) & math.MaxInt % uint64(q))
}

// exponent returns the exponent of a secret number.
func exponent(secret int) int {
	return rest(large(secret), q)
}

// answer returns k + C x modulo Q.
func answer(k, c, x int) int {
	return rest(new(big.Int).Add(large(k), new(big.Int).Mul(large(c), large(x))), q)
}

// statement is what a proof is about: that a and b have the same logarithm to g and h.
type statement struct{ g, a, h, b int }

// same returns the statement about the powers of g and h with a secret number.
func same(secret, g, h int) statement {
	x := exponent(secret)
	return statement{g, power(g, x), h, power(h, x)}
}

func (x statement) numbers() []int {
	return []int{x.g, x.a, x.h, x.b}
}

// challenge returns by the words of the chapter the challenge of a statement and two numbers.
func (x statement) challenge(r, s int) int {
	var texts []string
	for _, n := range append(x.numbers(), r, s) {
		texts = append(texts, large(n).String())
	}
	return scalar("equal/" + strings.Join(texts, "/"))
}

// proof returns the proof with any k in the place of that of P6.1, for a statement about powers with the exponent x.
func (x statement) proof(k, logarithm int) api.Proof {
	c := x.challenge(power(x.g, k), power(x.h, k))
	return api.Proof{C: c, Z: answer(k, c, logarithm)}
}

// side returns the product of the power of a base with Z and of a number with Q - C.
func side(base, number int, y api.Proof) int {
	return times(power(base, y.Z), power(number, q-y.C))
}

// fits reports whether C is the challenge, whatever the numbers are.
func (x statement) fits(y api.Proof) bool {
	return y.C == x.challenge(side(x.g, x.a, y), side(x.h, x.b, y))
}

// accepted says by the words of the chapter what Verify does.
func (x statement) accepted(y api.Proof) bool {
	for _, n := range x.numbers() {
		if !belongs(n) {
			return false
		}
	}
	return y.C >= 0 && y.C <= q-1 && y.Z >= 0 && y.Z <= q-1 && x.fits(y)
}

// proof returns by the words of the chapter what Prove does.
func proof(secret, g, h int) api.Proof {
	if !belongs(g) || !belongs(h) {
		return api.Proof{}
	}
	x := exponent(secret)
	k := scalar("nonce/" + strings.Join([]string{strconv.Itoa(x), strconv.Itoa(g), strconv.Itoa(h)}, "/"))
	return same(secret, g, h).proof(k, x)
}

// proved fails unless Prove returns the proof that the words of the chapter want.
func proved(t *testing.T, secret, g, h int) {
	t.Helper()
	if got, want := equal.Prove(secret, g, h), proof(secret, g, h); got != want {
		t.Fatalf("Prove(%d, %d, %d) = %v, not %v", secret, g, h, got, want)
	}
}

// verified fails unless Verify answers want, and the words of the chapter do so, too.
func verified(t *testing.T, x statement, y api.Proof, want bool) {
	t.Helper()
	if x.accepted(y) != want {
		t.Fatalf("the words of the chapter make %t of %v and %v", !want, x, y)
	}
	if got := equal.Verify(x.g, x.a, x.h, x.b, y); got != want {
		t.Fatalf("Verify of %v and %v = %t", x, y, got)
	}
}

// members are members of the group of all sorts: the least and the greatest ones, powers of G, and squares.
func members() []int {
	l := []int{1, api.G, 16, 64, p - 2}
	for n := 3; len(l) < 12; n++ {
		for _, a := range []int{n, p - n} {
			if big.Jacobi(large(a), large(p)) == 1 {
				l = append(l, a)
			}
		}
	}
	r := rand.New(rand.NewSource(1))
	for range 8 {
		n := 1 + r.Intn(p-1)
		l = append(l, power(api.G, r.Intn(q)), times(n, n))
	}
	slices.Sort(l)
	return slices.Compact(l)
}

// strangers are numbers of all sorts that are no members.
func strangers() []int {
	l := []int{0, -1, 2, -2, -4, -16, p - 1, p, p + 1, p + 2, p + 4, 2 * p, 2*p + 1, -p, 1 - p, 4 - p, -2 * p, 4 - 2*p, 1 - 4*p, math.MaxInt - 1, math.MaxInt, math.MinInt, math.MinInt + 1, math.MinInt + 4}
	for _, a := range members() {
		l = append(l, p-a, -a, a+p, a+2*p, a-p, a-2*p)
	}
	slices.Sort(l)
	return slices.Compact(l)
}

// secrets returns secret numbers of all sorts: 0, negative ones, those near multiples of Q, and the least and the greatest ints.
func secrets() []int {
	l := []int{0, 1, 2, 3, 255, 1 << 32, 1 << 60, p - 1, p, p + 1, math.MaxInt - 1, math.MaxInt, math.MinInt, math.MinInt + 1}
	for k := -7; k <= 7; k++ {
		l = append(l, k*q-1, k*q, k*q+1)
	}
	r := rand.New(rand.NewSource(2))
	for range 20 {
		l = append(l, some(r))
	}
	return l
}

// some returns ints of all lengths and both signs.
func some(r *rand.Rand) int {
	n := int(r.Uint64() >> r.Intn(64))
	if r.Intn(2) == 0 {
		return -n
	}
	return n
}

// one returns an element of l.
func one[T any](r *rand.Rand, l []T) T {
	return l[r.Intn(len(l))]
}

// short returns a text for a message.
func short(s string) string {
	if len(s) <= 60 {
		return strconv.Quote(s)
	}
	return strconv.Quote(s[:60]) + ".. of " + strconv.Itoa(len(s)) + " bytes"
}
