package delay_test

import (
	"crypto/sha256"
	"fmt"
	"math"
	"math/big"
	"math/rand"
	"slices"
	"strings"
	"testing"

	"sortes/api"
	"sortes/delay"
)

// The tests hold the package against crypto/sha256 and math/big, through its exported functions only.

// most is MaxSquares as the document says it.
const most = 1048576

// n is the modulus as the document says it.
var n = decimal("183437050444448162921448078311229901657")

// decimal returns the number of a numeral.
func decimal(s string) *big.Int {
	v, ok := new(big.Int).SetString(s, 10)
	if !ok {
		panic(s)
	}
	return v
}

func large(v int) *big.Int {
	return big.NewInt(int64(v))
}

func value(x api.Nat) *big.Int {
	return new(big.Int).SetBytes([]byte(x))
}

// right returns the api.Nat of a number that has no zeros in front.
func right(v *big.Int) api.Nat {
	return api.Nat(v.Bytes())
}

func of(v int) api.Nat {
	return right(large(v))
}

// near returns N + v.
func near(v int) api.Nat {
	return right(new(big.Int).Add(n, large(v)))
}

func rest(v *big.Int) *big.Int {
	return new(big.Int).Mod(v, n)
}

func times(a, b *big.Int) *big.Int {
	return rest(new(big.Int).Mul(a, b))
}

// run returns by the words of the chapter what v leads to in t steps.
func run(v *big.Int, t int) *big.Int {
	v = rest(v)
	if t > 1000 {
		// One power is quicker than so many squares.
		return new(big.Int).Exp(v, new(big.Int).Lsh(large(1), uint(t)), n)
	}
	for range t {
		v = times(v, v)
	}
	return v
}

// start returns by the words of the chapter what Start does.
func start(s string) api.Nat {
	h := sha256.Sum256([]byte("start/" + s))
	return right(rest(new(big.Int).SetBytes(h[:])))
}

// halving returns by the words of the chapter the first two numbers of a halving.
func halving(x, y, m *big.Int, t int) (*big.Int, *big.Int) {
	h := sha256.Sum256([]byte(fmt.Sprintf("delay/%d/%d/%d/%d", x, y, m, t)))
	r := new(big.Int).SetBytes(h[:8])
	return times(m, new(big.Int).Exp(x, r, n)), times(y, new(big.Int).Exp(m, r, n))
}

// isLength says by the words of the chapter whether t is a power of 2 from 1 to 2^20.
func isLength(t int) bool {
	for p := 1; p <= most; p *= 2 {
		if p == t {
			return true
		}
	}
	return false
}

// proof is what Prove returns.
type proof struct {
	y       api.Nat
	middles []api.Nat
	ok      bool
}

func (p proof) is(o proof) bool {
	return p.y == o.y && slices.Equal(p.middles, o.middles) && p.ok == o.ok
}

// prove returns by the words of the chapter what Prove does.
func prove(x api.Nat, t int) proof {
	if !isLength(t) {
		return proof{}
	}
	from := rest(value(x))
	to := run(from, t)
	p := proof{y: right(to), ok: true}
	for ; t > 1; t /= 2 {
		m := run(from, t/2)
		p.middles = append(p.middles, right(m))
		from, to = halving(from, to, m, t)
	}
	return p
}

// isReduced says by the words of the chapter whether x is reduced.
func isReduced(x api.Nat) bool {
	return !strings.HasPrefix(string(x), "\x00") && value(x).Cmp(n) < 0
}

// verify says by the words of the chapter what Verify does.
func verify(x, y api.Nat, t int, middles []api.Nat) bool {
	if !isLength(t) || 1<<len(middles) != t {
		return false
	}
	for _, z := range append([]api.Nat{x, y}, middles...) {
		if !isReduced(z) {
			return false
		}
	}
	from, to := value(x), value(y)
	for _, m := range middles {
		from, to = halving(from, to, value(m), t)
		t /= 2
	}
	return to.Cmp(run(from, 1)) == 0
}

// next returns by the words of the chapter what Next does.
func next(d api.Dispute, a, b api.Nat) api.Dispute {
	low, high := large(d.Low), large(d.High)
	if low.Sign() < 0 || high.Cmp(large(2)) < 0 || high.Cmp(large(most)) > 0 || low.Cmp(new(big.Int).Sub(high, large(2))) > 0 {
		return d
	}
	mid := d.Low + (d.High-d.Low)/2
	if value(a).Cmp(value(b)) == 0 {
		return api.Dispute{Low: mid, High: d.High, From: a, A: d.A, B: d.B}
	}
	return api.Dispute{Low: d.Low, High: mid, From: d.From, A: a, B: b}
}

// decide returns by the words of the chapter what Decide does.
func decide(d api.Dispute) int {
	one := d.Low+1 == d.High
	a, b, y := value(d.A), value(d.B), run(value(d.From), 1)
	if !one || a.Cmp(b) == 0 {
		return 0
	}
	if b.Cmp(y) == 0 {
		return 1
	}
	if a.Cmp(y) == 0 {
		return 2
	}
	return 3
}

// one returns any element of l.
func one[T any](r *rand.Rand, l []T) T {
	return l[r.Intn(len(l))]
}

// short returns s, or its beginning and how long it is.
func short(s string) string {
	if len(s) <= 200 {
		return fmt.Sprintf("%q", s)
	}
	return fmt.Sprintf("%q.. of %d bytes", s[:100], len(s))
}

// residue returns a number less than N.
func residue(r *rand.Rand) api.Nat {
	return right(new(big.Int).Rand(r, n))
}

// wide returns x with zeros in front.
func wide(x api.Nat, zeros int) api.Nat {
	return api.Nat(strings.Repeat("\x00", zeros)) + x
}

// plain are numbers less than N: small ones, those of 8 and of 16 bytes, and the greatest.
func plain() []api.Nat {
	l := []api.Nat{"", of(1), of(2), of(3), of(255), of(256), of(math.MaxInt)}
	for _, bits := range []uint{63, 64, 65, 120, 127} {
		p := new(big.Int).Lsh(large(1), bits)
		l = append(l, right(p), right(new(big.Int).Sub(p, large(1))))
	}
	half := new(big.Int).Rsh(n, 1)
	return append(l, right(half), right(new(big.Int).Add(half, large(1))), near(-257), near(-2), near(-1))
}

// beyond are numbers that are not less than N.
func beyond() []api.Nat {
	l := []api.Nat{near(0), near(1), near(2), near(256)}
	for _, factor := range []int{2, 3, 1000} {
		p := new(big.Int).Mul(n, large(factor))
		l = append(l, right(p), right(new(big.Int).Add(p, large(1))), right(new(big.Int).Sub(p, large(1))))
	}
	square := new(big.Int).Mul(n, n)
	l = append(l, right(square), right(new(big.Int).Sub(square, large(1))), right(new(big.Int).Mul(square, n)))
	for _, size := range []int{16, 17, 24, 32, 33, 300} {
		l = append(l, api.Nat(strings.Repeat("\xff", size)))
	}
	return append(l, api.Nat("\x01"+strings.Repeat("\x00", 16)), api.Nat("\x8b"+strings.Repeat("\x00", 15)))
}

// unright are numbers with zeros in front.
func unright() []api.Nat {
	l := []api.Nat{"\x00", "\x00\x00", api.Nat(strings.Repeat("\x00", 16)), api.Nat(strings.Repeat("\x00", 100))}
	for _, x := range []api.Nat{of(1), of(2), of(256), near(-1), near(0), near(1), "abcdefghijklmnop"} {
		l = append(l, wide(x, 1), wide(x, 7), wide(x, 40))
	}
	return l
}

// numbers are of all sorts.
func numbers() []api.Nat {
	return slices.Concat(plain(), beyond(), unright())
}

// some returns a number of any sort.
func some(r *rand.Rand) api.Nat {
	return one(r, []api.Nat{one(r, numbers()), residue(r), residue(r), wide(residue(r), r.Intn(3)), of(r.Intn(5))})
}

// outside are numbers of steps that are too few or too many.
func outside() []int {
	return []int{-1, -2, -8, -most, most + 1, most + 2, 2 * most, 3 * most / 2, 1 << 21, 1 << 32, 1<<32 + 1, 1<<32 + 8, 1 << 62, math.MaxInt - 1, math.MaxInt, math.MinInt, math.MinInt + 1, math.MinInt + 8}
}

// proved fails unless Prove returns what the words of the chapter want, and returns it.
func proved(t *testing.T, x api.Nat, length int) proof {
	t.Helper()
	var got proof
	got.y, got.middles, got.ok = delay.Prove(x, length)
	if want := prove(x, length); !got.is(want) {
		t.Fatalf("Prove(%s, %d) = %v, not %v", short(string(x)), length, got, want)
	}
	return got
}

// verified fails unless Verify answers want, and the words of the chapter do so, too.
func verified(t *testing.T, x, y api.Nat, length int, middles []api.Nat, want bool) {
	t.Helper()
	if verify(x, y, length, middles) != want {
		t.Fatalf("the words of the chapter make %t of %q, %q, %d, %q", !want, x, y, length, middles)
	}
	if got := delay.Verify(x, y, length, middles); got != want {
		t.Fatalf("Verify(%q, %q, %d, %q) = %t", x, y, length, middles, got)
	}
}
