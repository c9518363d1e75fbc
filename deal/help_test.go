package deal_test

import (
	"crypto/sha256"
	"encoding/binary"
	"encoding/hex"
	"fmt"
	"math"
	"math/big"
	"math/rand"
	"reflect"
	"slices"
	"strings"
	"testing"

	"sortes/api"
	"sortes/deal"
	"sortes/equal"
)

// The tests hold the package against crypto/sha256, encoding/hex and math/big, and for proofs against package equal, through its exported functions only.

// P and Q as ints, so that sums of them wrap around where the tests want it.
var (
	p = api.P
	q = api.Q
)

func large(n int) *big.Int {
	return big.NewInt(int64(n))
}

// rest returns the number from 0 to m - 1 that differs from v by a multiple of m.
func rest(v *big.Int, m int) int {
	return int(new(big.Int).Mod(v, large(m)).Int64())
}

// times returns the residue of a product.
func times(a, b, m int) int {
	return rest(new(big.Int).Mul(large(a), large(b)), m)
}

// raised returns the residue of a power with an exponent from 0 on.
func raised(a, n, m int) int {
	return int(new(big.Int).Exp(large(rest(large(a), m)), large(n), large(m)).Int64())
}

// power returns the residue modulo P of a power with an exponent from 0 on.
func power(a, n int) int {
	return raised(a, n, p)
}

// exponent returns the residue modulo Q.
func exponent(n int) int {
	return rest(large(n), q)
}

// belongs says by the words of chapter 4 whether a is a member of the group.
func belongs(a int) bool {
	return a >= 1 && a <= p-1 && power(a, q) == 1
}

// value returns by the words of the chapter the value of coefficients at x.
func value(coefs []int, x int) int {
	sum := 0
	for i, c := range coefs {
		sum = exponent(sum + times(c, raised(x, i, q), q))
	}
	return sum
}

// public returns by the words of the chapter the public value of commitments at x.
func public(commits []int, x int) int {
	product := 1
	for i, c := range commits {
		product = times(product, power(c, raised(x, i, q)), p)
	}
	return product
}

// pad returns by the words of the chapter the pad of a number and an index.
func pad(number, index int) []byte {
	h := sha256.Sum256([]byte(fmt.Sprintf("box/%d/%d", number, index)))
	return h[:]
}

// sealed returns by the words of the chapter the box of an index for a number, with any content.
func sealed(number, index, content int) string {
	box := pad(number, index)[:16]
	for i, b := range binary.BigEndian.AppendUint64(nil, uint64(content)) {
		box[i] ^= b
	}
	return string(box)
}

// content returns by the words of the chapter what a number finds in a box, if it opens it.
func content(number, index int, box string) (int, bool) {
	mask := pad(number, index)
	if len(box) != 16 || box[8:] != string(mask[8:16]) {
		return 0, false
	}
	b := []byte(box[:8])
	for i := range b {
		b[i] ^= mask[i]
	}
	return int(binary.BigEndian.Uint64(b)), true
}

// point returns the number k of a seed, and the Point.
func point(seed string) (k, at int) {
	h := sha256.Sum256([]byte("s/point/" + seed))
	k = int(binary.BigEndian.Uint64(h[:8]) & math.MaxInt % uint64(q))
	return k, power(api.G, k)
}

// dealing returns by the words of the chapter what Deal does with numbers that it takes; the numbers may also be others.
func dealing(coefs, keys []int, seed string) api.Dealing {
	var d api.Dealing
	k, at := point(seed)
	d.Point = at
	for _, c := range coefs {
		d.Commits = append(d.Commits, power(api.G, exponent(c)))
	}
	for i, key := range keys {
		d.Boxes = append(d.Boxes, sealed(power(key, k), i, value(coefs, i+1)))
	}
	return d
}

// inForm says by the words of the chapter whether a dealing is in form for n keys.
func inForm(d api.Dealing, n int) bool {
	good := len(d.Boxes) == n && len(d.Commits) >= 1 && len(d.Commits) <= n && belongs(d.Point)
	for _, s := range d.Boxes {
		good = good && len(s) == 16
	}
	for _, c := range d.Commits {
		good = good && belongs(c)
	}
	return good
}

// share returns by the words of the chapter the share that a number finds in a box of a dealing, if it fits.
func share(number int, d api.Dealing, index int) (api.Share, bool) {
	y, ok := content(number, index, d.Boxes[index])
	if !ok || y < 0 || y > q-1 || power(api.G, y) != public(d.Commits, index+1) {
		return api.Share{}, false
	}
	return api.Share{X: index + 1, Y: y}, true
}

// opened fails unless Open answers as the words of the chapter want, and returns whether it finds a share.
func opened(t *testing.T, secret int, d api.Dealing, index int) bool {
	t.Helper()
	var want api.Share
	var found bool
	if index >= 0 && index < len(d.Boxes) {
		want, found = share(power(d.Point, exponent(secret)), d, index)
	}
	if got, ok := deal.Open(secret, d, index); got != want || ok != found {
		t.Fatalf("Open(%d, %s, %d) = %v, %t, not %v, %t", secret, short(text(d)), index, got, ok, want, found)
	}
	return found
}

// opens fails unless the secret number opens a box, or does not, as want says.
func opens(t *testing.T, secret int, d api.Dealing, index int, want bool) {
	t.Helper()
	if opened(t, secret, d, index) != want {
		t.Fatalf("%d opens the box %d of %s: %t", secret, index, short(text(d)), !want)
	}
}

// checked fails unless Check answers as the words of the chapter want, and as want says.
func checked(t *testing.T, d api.Dealing, n int, want bool) {
	t.Helper()
	if inForm(d, n) != want {
		t.Fatalf("the words of the chapter make %t of %s, for %d keys", !want, short(text(d)), n)
	}
	if got := deal.Check(d, n); got != want {
		t.Fatalf("Check(%s, %d) = %t", short(text(d)), n, got)
	}
}

// verdict returns by the words of the chapter what Judge does.
func verdict(keys []int, d api.Dealing, c api.Complaint) int {
	if !inForm(d, len(keys)) || c.Index < 0 || c.Index >= len(keys) || !equal.Verify(api.G, keys[c.Index], d.Point, c.Key, c.Proof) {
		return 0
	}
	if _, ok := share(c.Key, d, c.Index); ok {
		return 2
	}
	return 1
}

// judged fails unless Judge answers as the words of the chapter want, and as want says.
func judged(t *testing.T, keys []int, d api.Dealing, c api.Complaint, want int) {
	t.Helper()
	if by := verdict(keys, d, c); by != want {
		t.Fatalf("the words of the chapter make %d of %d keys, %s and %v, not %d", by, len(keys), short(text(d)), c, want)
	}
	if got := deal.Judge(keys, d, c); got != want {
		t.Fatalf("Judge of %d keys, %s and %v = %d, not %d", len(keys), short(text(d)), c, got, want)
	}
}

// complaint returns by the words of the chapter what Complain does.
func complaint(secret int, d api.Dealing, index int) api.Complaint {
	if index < 0 || index >= len(d.Boxes) || !belongs(d.Point) {
		return api.Complaint{}
	}
	return api.Complaint{Index: index, Key: power(d.Point, exponent(secret)), Proof: equal.Prove(secret, api.G, d.Point)}
}

// text returns by the words of the chapter the text of a dealing.
func text(d api.Dealing) string {
	parts := []string{"deal", fmt.Sprint(len(d.Commits))}
	for _, c := range d.Commits {
		parts = append(parts, fmt.Sprint(c))
	}
	parts = append(parts, fmt.Sprint(d.Point))
	for _, s := range d.Boxes {
		parts = append(parts, hex.EncodeToString([]byte(s)))
	}
	return strings.Join(parts, " ")
}

// alike reports whether two dealings are the same one: a nil slice is like an empty one.
func alike(a, b api.Dealing) bool {
	return a.Point == b.Point && slices.Equal(a.Commits, b.Commits) && slices.Equal(a.Boxes, b.Boxes)
}

// isZero reports whether d is the zero dealing.
func isZero(d api.Dealing) bool {
	return reflect.ValueOf(d).IsZero()
}

// copied returns a dealing that shares no memory with d.
func copied(d api.Dealing) api.Dealing {
	return api.Dealing{Commits: slices.Clone(d.Commits), Point: d.Point, Boxes: slices.Clone(d.Boxes)}
}

// boxed returns the dealing with another box.
func boxed(d api.Dealing, index int, box string) api.Dealing {
	d = copied(d)
	d.Boxes[index] = box
	return d
}

// commits returns the dealing with other commitments.
func commits(d api.Dealing, l ...int) api.Dealing {
	d = copied(d)
	d.Commits = l
	return d
}

// pointed returns the dealing with another Point.
func pointed(d api.Dealing, at int) api.Dealing {
	d = copied(d)
	d.Point = at
	return d
}

// flipped returns the bytes with one binary digit changed.
func flipped(s string, digit int) string {
	b := []byte(s)
	b[digit/8] ^= 1 << (digit % 8)
	return string(b)
}

// keysOf returns the public keys of secret numbers.
func keysOf(secrets []int) []int {
	var l []int
	for _, s := range secrets {
		l = append(l, power(api.G, exponent(s)))
	}
	return l
}

// people returns n secret numbers, all different ones, and their keys.
func people(n int) (secrets, keys []int) {
	for i := range n {
		secrets = append(secrets, 7+i*i*1234567890123)
	}
	return secrets, keysOf(secrets)
}

// members are members of the group of all sorts: the least and the greatest ones, powers of G, and squares.
func members() []int {
	l := []int{1, api.G, 16, 64, p - 2}
	for n := 3; len(l) < 12; n++ {
		for _, a := range []int{n, p - n} {
			if big.Jacobi(large(a), large(p)) == 1 {
				l = append(l, a)
			}
		}
	}
	r := rand.New(rand.NewSource(1))
	for range 8 {
		l = append(l, power(api.G, r.Intn(q)))
	}
	slices.Sort(l)
	return slices.Compact(l)
}

// strangers are numbers of all sorts that are no members.
func strangers() []int {
	l := []int{0, -1, 2, -2, -4, -16, p - 4, p - 1, p, p + 1, p + 2, p + 4, 2 * p, 2*p + 1, -p, 1 - p, 4 - p, -2 * p, 1 - 4*p, math.MaxInt - 1, math.MaxInt, math.MinInt, math.MinInt + 1, math.MinInt + 4}
	for _, a := range members()[:6] {
		l = append(l, p-a, -a, a+p, a-p)
	}
	slices.Sort(l)
	return slices.Compact(l)
}

// numbers are ints of all sorts: 0, negative ones, those near multiples of Q, and the least and the greatest ints.
func numbers() []int {
	l := []int{0, 1, -1, 2, -2, 3, 255, 256, 1 << 32, 1 << 60, p - 1, p, p + 1, math.MaxInt - 1, math.MaxInt, math.MinInt, math.MinInt + 1}
	for _, k := range []int{-7, -2, -1, 1, 2, 6, 7} {
		l = append(l, k*q-1, k*q, k*q+1)
	}
	r := rand.New(rand.NewSource(2))
	for range 12 {
		l = append(l, some(r))
	}
	return l
}

// lists are lists of numbers of all lengths that Deal takes, and longer ones.
func lists(r *rand.Rand, numbers []int) [][]int {
	l := [][]int{nil, {}}
	for _, n := range []int{1, 1, 2, 2, 3, 3, 4, 5, 10, 59, 60, 61, 100} {
		var list []int
		for range n {
			list = append(list, one(r, numbers))
		}
		l = append(l, list)
	}
	return l
}

// beyond are indices that no box of n has.
func beyond(n int) []int {
	return []int{-1, -2, -n, -n - 1, n, n + 1, 2 * n, 60, 1 << 32, math.MinInt, math.MinInt + 1, math.MaxInt - 1, math.MaxInt}
}

// some returns ints of all lengths and both signs.
func some(r *rand.Rand) int {
	n := int(r.Uint64() >> r.Intn(64))
	if r.Intn(2) == 0 {
		return -n
	}
	return n
}

// one returns an element of l.
func one[T any](r *rand.Rand, l []T) T {
	return l[r.Intn(len(l))]
}

// short returns a text for a message.
func short(s string) string {
	if len(s) <= 300 {
		return fmt.Sprintf("%q", s)
	}
	return fmt.Sprintf("%q.. of %d bytes", s[:300], len(s))
}
