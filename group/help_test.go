package group_test

import (
	"crypto/sha256"
	"math"
	"math/big"
	"math/rand"
	"slices"
	"strconv"
	"strings"
	"testing"

	"sortes/api"
	"sortes/group"
)

// The tests hold the package against math/big and crypto/sha256, through its exported functions only.

// P and Q as ints, so that sums of them wrap around where the tests want it.
var (
	p = api.P
	q = api.Q
)

// lastPrime is the greatest prime number that fits into an int.
const lastPrime = math.MaxInt - 24

// moduli are those for which there are residues: 1, 2, even and prime ones, and those at the borders of words and of the ints.
func moduli() []int {
	l := []int{1, 2, 3, 4, 5, 6, 7, 8, 9, 10, 12, 16, 97, 100, 255, 256, 257, 1<<31 - 1, 1 << 31, 1<<32 - 1, 1 << 32, 1<<32 + 15, 1e18}
	l = append(l, q-1, q, q+1, p-1, p, p+1, 1<<61-1, 1<<62-1, 1<<62, 1<<62+1, 1<<62+135)
	return append(l, lastPrime, math.MaxInt-2, math.MaxInt-1, math.MaxInt)
}

// noModuli are those for which there are none.
func noModuli() []int {
	return []int{0, -1, -2, -3, -7, -8, -97, -256, -1 << 32, -q, -p, math.MinInt + 2, math.MinInt + 1, math.MinInt}
}

// edges are numbers of all sorts, and those near a modulus m, its half, its negative and multiples.
func edges(m int) []int {
	l := []int{0, 1, 2, 3, 4, 5, 7, 10, 1<<31 - 1, 1 << 32, q - 1, q, q + 1, p - 1, p, p + 1, 1<<62 - 1, 1 << 62, math.MaxInt - 1, math.MaxInt}
	for _, n := range []int{m, m / 2, 2 * m, 3 * m} {
		l = append(l, n-2, n-1, n, n+1, n+2)
	}
	for _, n := range slices.Clone(l) {
		l = append(l, -n)
	}
	l = append(l, math.MinInt, math.MinInt+1)
	slices.Sort(l)
	return slices.Compact(l)
}

// some returns ints of all lengths and both signs.
func some(r *rand.Rand) int {
	n := int(r.Uint64() >> r.Intn(64))
	if r.Intn(2) == 0 {
		return -n
	}
	return n
}

func large(n int) *big.Int {
	return big.NewInt(int64(n))
}

// rest returns by math/big the residue of v modulo m.
func rest(v *big.Int, m int) int {
	return int(new(big.Int).Mod(v, large(m)).Int64())
}

// square returns the residue modulo P of n times n.
func square(n int) int {
	return rest(new(big.Int).Mul(large(n), large(n)), p)
}

// power returns by math/big the residue of a power.
func power(a, n, m int) int {
	return int(new(big.Int).Exp(large(rest(large(a), m)), large(n), large(m)).Int64())
}

// number returns by the words of the chapter the number of the hash of s.
func number(s string) *big.Int {
	h := sha256.Sum256([]byte(s))
	digits := ""
	for _, b := range h[:8] {
		binary := strconv.FormatInt(int64(b), 2)
		digits += strings.Repeat("0", 8-len(binary)) + binary
	}
	n, _ := new(big.Int).SetString(digits[1:], 2)
	return n
}

// texts returns texts of all sorts: empty ones, such as begin like those that are hashed, of all bytes, and long ones.
func texts() []string {
	l := []string{"", "s", "e", "/", "s/", "e/", "s/s/", "0", "1", "abc", "ABC", "abc ", " abc", "a\x00", "a\x00\x00", "\x00", "\xff", "\xff\xfe", "caf\u00e9", "cafe\u0301", "round/1", "round/-1", strings.Repeat("a", 100000)}
	for b := range 256 {
		l = append(l, "byte"+string([]byte{byte(b)}))
	}
	for n := range 140 {
		l = append(l, strings.Repeat("x", n))
	}
	r := rand.New(rand.NewSource(1))
	for range 600 {
		b := make([]byte, r.Intn(50))
		r.Read(b)
		l = append(l, string(b))
	}
	return l
}

// short returns a text for a message.
func short(s string) string {
	if len(s) <= 60 {
		return strconv.Quote(s)
	}
	return strconv.Quote(s[:60]) + ".. of " + strconv.Itoa(len(s)) + " bytes"
}

// members returns members of the group of all sorts: the least and the greatest ones, powers of G, and squares.
func members() []int {
	l := []int{1, api.G}
	for n := range 40 {
		for _, a := range []int{2 + n, p - 1 - n} {
			if big.Jacobi(large(a), large(p)) == 1 {
				l = append(l, a)
			}
		}
	}
	r := rand.New(rand.NewSource(2))
	for range 60 {
		l = append(l, square(1+r.Intn(p-1)), power(api.G, r.Intn(q), p))
	}
	return l
}

// calculated fails unless a call has returned what it should.
func calculated(t *testing.T, name string, got, want int, args ...int) {
	t.Helper()
	if got != want {
		t.Fatalf("%s%v = %d, not %d", name, args, got, want)
	}
}

// inverted fails unless Inv returns for a and m the inverse that there is, or 0 and false, if there is none.
func inverted(t *testing.T, a, m int) {
	t.Helper()
	want := 0
	if m > 1 {
		if inverse := new(big.Int).ModInverse(large(rest(large(a), m)), large(m)); inverse != nil {
			want = int(inverse.Int64())
		}
	}
	if got, ok := group.Inv(a, m); got != want || ok != (want != 0) {
		t.Fatalf("Inv(%d, %d) = %d, %t, not %d", a, m, got, ok, want)
	}
}
