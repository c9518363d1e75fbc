package sign_test

import (
	"crypto/sha256"
	"encoding/binary"
	"math"
	"math/big"
	"math/rand"
	"strconv"
	"strings"
	"testing"

	"sortes/api"
	"sortes/sign"
)

// The tests hold the package against crypto/sha256, encoding/binary and math/big, through its exported functions, but for zero_test.go.

// P, Q and G as ints, so that sums of them wrap around where the tests want it.
var (
	p = api.P
	q = api.Q
	g = api.G
)

func large(n int) *big.Int {
	return big.NewInt(int64(n))
}

// rest returns the number from 0 to m - 1 that differs from v by a multiple of m.
func rest(v *big.Int, m int) int {
	return int(new(big.Int).Mod(v, large(m)).Int64())
}

// times returns the residue of a product.
func times(a, b, m int) int {
	return rest(new(big.Int).Mul(large(a), large(b)), m)
}

// power returns the residue modulo P of a power with an exponent from 0 on.
func power(a, n int) int {
	return int(new(big.Int).Exp(large(rest(large(a), p)), large(n), large(p)).Int64())
}

// belongs says by the words of chapter 4 whether a is a member of the group.
func belongs(a int) bool {
	return a >= 1 && a <= p-1 && power(a, q) == 1
}

// scalar returns by the words of chapter 4 the number of a text.
func scalar(s string) int {
	h := sha256.Sum256([]byte("s/" + s))
	return int(binary.BigEndian.Uint64(h[:8]) & math.MaxInt % uint64(q))
}

// eight returns the bytes of a number.
func eight(n int) string {
	return string(binary.BigEndian.AppendUint64(nil, uint64(n)))
}

func challenge(r, public int, text string) int {
	return scalar("c" + eight(r) + eight(public) + text)
}

// exponent returns the exponent of a secret.
func exponent(secret int) int {
	return rest(large(secret), q)
}

// public returns the public key of a secret.
func public(secret int) int {
	return power(g, exponent(secret))
}

// answer returns the S that belongs to the powers of G with n and x, and a challenge.
func answer(n, x, c int) int {
	return rest(new(big.Int).Add(large(n), new(big.Int).Mul(large(x), large(c))), q)
}

// signature returns by the words of the chapter what Sign does.
func signature(secret int, text string) api.Sig {
	x := exponent(secret)
	n := scalar("n" + eight(x) + text)
	if n == 0 {
		n = 1
	}
	r := power(g, n)
	return api.Sig{R: r, S: answer(n, x, challenge(r, public(secret), text))}
}

// accepted says by the words of the chapter what Verify does.
func accepted(key int, text string, s api.Sig) bool {
	if !belongs(key) || !belongs(s.R) || s.S < 0 || s.S > q-1 {
		return false
	}
	return power(g, s.S) == times(s.R, power(key, challenge(s.R, key, text)), p)
}

// texts returns texts of all sorts: empty ones, such as begin like those that are hashed, of all bytes, and long ones.
func texts() []string {
	l := []string{"", "k", "n", "c", "s/", "0", "abc", "ABC", "abc ", " abc", "a\x00", "\x00", "\x00\x00\x00\x00\x00\x00\x00\x01", "\xff", "\xff\xfe", "caf\u00e9", "cafe\u0301", "12.3", "vote 1 0 0 a", strings.Repeat("a", 100000)}
	for b := range 256 {
		l = append(l, "byte"+string([]byte{byte(b)}))
	}
	for n := 1; n < 140; n++ {
		l = append(l, strings.Repeat("x", n))
	}
	r := rand.New(rand.NewSource(1))
	for range 100 {
		b := make([]byte, 10+r.Intn(50))
		r.Read(b)
		l = append(l, string(b))
	}
	return l
}

// few returns some of the texts.
func few() []string {
	return []string{"", "k", "abc", "\x00\xff", "caf\u00e9", strings.Repeat("a", 1000)}
}

// secrets returns secret numbers of all sorts: 0, negative ones, those near multiples of Q, and the least and the greatest ints.
func secrets() []int {
	l := []int{0, 1, 2, 3, 255, 256, 1 << 32, 1 << 60, p - 1, p, p + 1, math.MaxInt - 1, math.MaxInt, math.MinInt, math.MinInt + 1}
	for k := -7; k <= 7; k++ {
		l = append(l, k*q-1, k*q, k*q+1)
	}
	r := rand.New(rand.NewSource(2))
	for range 40 {
		l = append(l, some(r))
	}
	return l
}

// some returns ints of all lengths and both signs.
func some(r *rand.Rand) int {
	n := int(r.Uint64() >> r.Intn(64))
	if r.Intn(2) == 0 {
		return -n
	}
	return n
}

// short returns a text for a message.
func short(s string) string {
	if len(s) <= 60 {
		return strconv.Quote(s)
	}
	return strconv.Quote(s[:60]) + ".. of " + strconv.Itoa(len(s)) + " bytes"
}

// verified fails unless Verify answers want, and the words of the chapter do so, too.
func verified(t *testing.T, key int, text string, s api.Sig, want bool) {
	t.Helper()
	if accepted(key, text, s) != want {
		t.Fatalf("the words of the chapter make %t of %d, %s and %v", !want, key, short(text), s)
	}
	if got := sign.Verify(key, text, s); got != want {
		t.Fatalf("Verify(%d, %s, %v) = %t", key, short(text), s, got)
	}
}
