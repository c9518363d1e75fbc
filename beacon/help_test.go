package beacon_test

import (
	"crypto/sha256"
	"encoding/binary"
	"fmt"
	"math"
	"math/big"
	"math/rand"
	"slices"
	"strconv"
	"strings"
	"testing"

	"sortes/api"
	"sortes/beacon"
)

// The tests hold the package against crypto/sha256, encoding/binary and math/big, through its exported functions only.

// P and Q as ints, so that sums of them wrap around where the tests want it.
var (
	p = api.P
	q = api.Q
)

func large(n int) *big.Int {
	return big.NewInt(int64(n))
}

// rest returns the number from 0 to m - 1 that differs from v by a multiple of m.
func rest(v *big.Int, m int) int {
	return int(new(big.Int).Mod(v, large(m)).Int64())
}

// times returns the residue of a product.
func times(a, b, m int) int {
	return rest(new(big.Int).Mul(large(a), large(b)), m)
}

// power returns the residue modulo P of a power with an exponent from 0 on.
func power(a, n int) int {
	return int(new(big.Int).Exp(large(rest(large(a), p)), large(n), large(p)).Int64())
}

// belongs says by the words of chapter 4 whether a is a member of the group.
func belongs(a int) bool {
	return a >= 1 && a <= p-1 && power(a, q) == 1
}

func isExponent(y int) bool {
	return y >= 0 && y <= q-1
}

// number returns by the words of chapter 4 the number of the hash of s.
func number(s string) int {
	h := sha256.Sum256([]byte(s))
	return int(binary.BigEndian.Uint64(h[:8]) & math.MaxInt)
}

// scalar returns by the words of chapter 4 the scalar of words and numbers.
func scalar(word string, numbers ...int) int {
	for _, n := range numbers {
		word += "/" + large(n).String()
	}
	return number("s/"+word) % q
}

// base returns by the words of the chapter the base of a round.
func base(round int) int {
	root := 1 + number("e/round/"+large(round).String())%(p-1)
	return times(root, root, p)
}

// proof returns by the words of chapter 6 the proof for G and h, with any k in the place of that of P6.1.
func proof(k, x, h int) api.Proof {
	c := scalar("equal", api.G, power(api.G, x), h, power(h, x), power(api.G, k), power(h, k))
	return api.Proof{C: c, Z: rest(new(big.Int).Add(large(k), large(times(c, x, q))), q)}
}

// proves says by the words of chapter 6 what equal.Verify does for G.
func proves(a, h, b int, y api.Proof) bool {
	if !belongs(a) || !belongs(h) || !belongs(b) || !isExponent(y.C) || !isExponent(y.Z) {
		return false
	}
	r := times(power(api.G, y.Z), power(a, q-y.C), p)
	s := times(power(h, y.Z), power(b, q-y.C), p)
	return y.C == scalar("equal", api.G, a, h, b, r, s)
}

// value returns by the words of chapter 7 the value of coefficients at x.
func value(coefs []int, x int) int {
	sum := new(big.Int)
	for i, c := range coefs {
		term := new(big.Int).Exp(large(x), large(i), large(q))
		sum.Add(sum, term.Mul(term, large(c)))
	}
	return rest(sum, q)
}

// publicValue returns by the words of chapter 7 the public value of commitments at x.
func publicValue(commits []int, x int) int {
	product := 1
	for i, c := range commits {
		n := new(big.Int).Exp(large(x), large(i), large(q))
		product = times(product, power(c, int(n.Int64())), p)
	}
	return product
}

// need returns by the words of chapter 8 what Need does, for totals that are not great.
func need(total int) int {
	if total < 1 {
		return 0
	}
	w := 0
	for 3*w < total {
		w++
	}
	return w
}

// isRight says by the words of chapter 8 whether keys are right.
func isRight(k api.Keys) bool {
	good := true
	for _, l := range k.Points {
		good = good && len(l) >= 1
	}
	all := slices.Concat(k.Points...)
	for i, x := range all {
		good = good && x == i+1
	}
	if !good || len(all) < 1 || len(all) > 60 || len(k.Commits) != need(len(all)) {
		return false
	}
	for _, c := range k.Commits {
		good = good && belongs(c)
	}
	return good
}

// lift returns by the words of chapter 8 what Lift does with partials that count, as many as are needed.
func lift(l []api.Partial) int {
	product := 1
	for _, one := range l {
		above, below := big.NewInt(1), big.NewInt(1)
		for _, other := range l {
			if other.X != one.X {
				above.Mul(above, large(other.X)).Mod(above, large(q))
				below.Mul(below, large(other.X-one.X)).Mod(below, large(q))
			}
		}
		factor := rest(above.Mul(above, below.ModInverse(below, large(q))), q)
		product = times(product, power(one.Value, factor), p)
	}
	return product
}

// eval returns by the words of the chapter what Eval does.
func eval(s api.Share, round int) api.Partial {
	if s.X < 1 || s.X > 60 || !isExponent(s.Y) {
		return api.Partial{}
	}
	b := base(round)
	return api.Partial{X: s.X, Value: power(b, s.Y), Proof: proof(scalar("nonce", s.Y, api.G, b), s.Y, b)}
}

// accepts says by the words of the chapter what Verify does.
func accepts(k api.Keys, round int, y api.Partial) bool {
	return isRight(k) && y.X >= 1 && y.X <= len(slices.Concat(k.Points...)) && proves(publicValue(k.Commits, y.X), base(round), y.Value, y.Proof)
}

// result is what Combine returns.
type result struct {
	value int
	bad   []int
	err   api.Errno
}

func (a result) is(b result) bool {
	return a.value == b.value && slices.Equal(a.bad, b.bad) && a.err == b.err
}

// combine returns by the words of the chapter what Combine does.
func combine(k api.Keys, round int, l []api.Partial) result {
	if !isRight(k) {
		return result{err: api.ErrArg}
	}
	var counting []api.Partial
	var bad []int
	for _, y := range l {
		if !accepts(k, round, y) {
			bad = append(bad, y.X)
		} else if !slices.ContainsFunc(counting, func(before api.Partial) bool { return before.X == y.X }) {
			counting = append(counting, y)
		}
	}
	if len(counting) < len(k.Commits) {
		return result{bad: bad, err: api.ErrFew}
	}
	return result{lift(counting[:len(k.Commits)]), bad, api.OK}
}

// text returns by the words of the chapter what Text does.
func text(y api.Partial) string {
	var parts []string
	for _, n := range []int{y.X, y.Value, y.Proof.C, y.Proof.Z} {
		parts = append(parts, large(n).String())
	}
	return strings.Join(parts, " ")
}

// evaluated fails unless Eval returns what the words of the chapter want, and returns it.
func evaluated(t *testing.T, s api.Share, round int) api.Partial {
	t.Helper()
	got, want := beacon.Eval(s, round), eval(s, round)
	if got != want {
		t.Fatalf("Eval(%v, %d) = %v, not %v", s, round, got, want)
	}
	return got
}

// verified fails unless Verify answers want, and the words of the chapter do so, too.
func verified(t *testing.T, k api.Keys, round int, y api.Partial, want bool) {
	t.Helper()
	if accepts(k, round, y) != want {
		t.Fatalf("the words of the chapter make %t of %v, %d and %v", !want, k, round, y)
	}
	if got := beacon.Verify(k, round, y); got != want {
		t.Fatalf("Verify(%v, %d, %v) = %t", k, round, y, got)
	}
}

// combined fails unless Combine returns what the words of the chapter want, with this error, and returns it.
func combined(t *testing.T, k api.Keys, round int, l []api.Partial, err api.Errno) result {
	t.Helper()
	var got result
	got.value, got.bad, got.err = beacon.Combine(k, round, l)
	want := combine(k, round, l)
	if want.err != err {
		t.Fatalf("the words of the chapter make %v of %s", want, short(fmt.Sprint(k, round, l)))
	}
	if !got.is(want) {
		t.Fatalf("Combine%s = %v, not %v", short(fmt.Sprint(k, round, l)), got, want)
	}
	return got
}

// office is keys with the polynomial that they are made with.
type office struct {
	coefs []int
	keys  api.Keys
}

// split returns the numbers from 1 to n in lists, none of them empty.
func split(r *rand.Rand, n int) [][]int {
	all := [][]int{{1}}
	for x := 2; x <= n; x++ {
		if r.Intn(3) == 0 {
			all = append(all, nil)
		}
		last := len(all) - 1
		all[last] = append(all[last], x)
	}
	return all
}

// withPoints returns an office with n points.
func withPoints(r *rand.Rand, n int) office {
	o := office{keys: api.Keys{Points: split(r, n)}}
	for range need(n) {
		c := one(r, []int{0, 1, q - 1, r.Intn(q), r.Intn(q), r.Intn(q)})
		o.coefs = append(o.coefs, c)
		o.keys.Commits = append(o.keys.Commits, power(api.G, c))
	}
	return o
}

// example is the office of the chapter's examples.
func example() office {
	return office{[]int{5, 2}, api.Keys{Commits: []int{1 << 10, 1 << 4}, Points: [][]int{{1, 2}, {3}, {4, 5}}}}
}

// offices are some of all sizes.
func offices(r *rand.Rand) []office {
	l := []office{example()}
	for _, n := range []int{1, 2, 3, 4, 6, 7, 13, 30, 59, 60} {
		l = append(l, withPoints(r, n))
	}
	return l
}

func (o office) points() int {
	return len(slices.Concat(o.keys.Points...))
}

// share returns the share of a point, which may be one that nobody has.
func (o office) share(x int) api.Share {
	return api.Share{X: x, Y: value(o.coefs, x)}
}

// partial returns a partial that is right but for its point, which may be any.
func (o office) partial(x, round int) api.Partial {
	return o.other(x, round, 12345)
}

// other is partial with any k for the proof.
func (o office) other(x, round, k int) api.Partial {
	y, b := value(o.coefs, x), base(round)
	return api.Partial{X: x, Value: power(b, y), Proof: proof(k, y, b)}
}

// partials returns the partials of points for a round.
func (o office) partials(round int, points ...int) []api.Partial {
	var l []api.Partial
	for _, x := range points {
		l = append(l, eval(o.share(x), round))
	}
	return l
}

// drawn returns n of the points, in any order.
func (o office) drawn(r *rand.Rand, n int) []int {
	var l []int
	for _, i := range r.Perm(o.points())[:n] {
		l = append(l, i+1)
	}
	return l
}

// answer returns the power of the base of a round with the first coefficient.
func (o office) answer(round int) int {
	return power(base(round), o.coefs[0])
}

// wrongs returns partials that are not accepted, made of one that is, each with its point.
func (o office) wrongs(y api.Partial, round int) []api.Partial {
	l := o.partials(round+1, y.X)
	add := func(change func(y *api.Partial)) {
		wrong := y
		change(&wrong)
		l = append(l, wrong)
	}
	add(func(y *api.Partial) { *y = api.Partial{X: y.X} })
	add(func(y *api.Partial) { y.Proof = api.Proof{} })
	for _, n := range []int{0, -1, 2, 4, p - 1, p - y.Value, y.Value + p, y.Value - p, -y.Value, times(y.Value, 4, p), times(y.Value, y.Value, p), math.MaxInt, math.MinInt} {
		if n != y.Value {
			add(func(y *api.Partial) { y.Value = n })
		}
	}
	for _, n := range []int{1, -1, q, -q, 2 * q, p, -p, math.MinInt} {
		add(func(y *api.Partial) { y.Proof.C += n })
		add(func(y *api.Partial) { y.Proof.Z += n })
	}
	add(func(y *api.Partial) { y.Proof.C, y.Proof.Z = y.Proof.Z, y.Proof.C })
	return append(l, eval(api.Share{X: y.X, Y: rest(large(o.share(y.X).Y+1), q)}, round))
}

// kept returns keys that share no memory with k.
func kept(k api.Keys) api.Keys {
	var all [][]int
	for _, l := range k.Points {
		all = append(all, slices.Clone(l))
	}
	return api.Keys{Commits: slices.Clone(k.Commits), Points: all}
}

// spoiled returns, of keys that are right, keys that are not.
func spoiled(k api.Keys) []api.Keys {
	var all []api.Keys
	add := func(change func(k *api.Keys)) {
		other := kept(k)
		change(&other)
		all = append(all, other)
	}
	n := len(slices.Concat(k.Points...))
	last := len(k.Commits) - 1
	add(func(k *api.Keys) { *k = api.Keys{} })
	add(func(k *api.Keys) { k.Points = nil })
	add(func(k *api.Keys) { k.Points = append(k.Points, nil) })
	add(func(k *api.Keys) { k.Points = append([][]int{{}}, k.Points...) })
	add(func(k *api.Keys) { k.Points = append(k.Points, []int{n}) })
	add(func(k *api.Keys) { k.Points = append(k.Points, []int{n + 2}) })
	add(func(k *api.Keys) { k.Points = append(k.Points, []int{n + 1, n + 2, n + 3}) })
	add(func(k *api.Keys) { k.Points[0][0] = 0 })
	add(func(k *api.Keys) { k.Points[0][0] = 2 })
	add(func(k *api.Keys) { k.Points[0][0] = q + 1 })
	add(func(k *api.Keys) { k.Commits = nil })
	add(func(k *api.Keys) { k.Commits = k.Commits[:last] })
	add(func(k *api.Keys) { k.Commits = append(k.Commits, 1) })
	add(func(k *api.Keys) { k.Commits = append(k.Commits, 4) })
	for _, c := range []int{0, -4, 2, p - 1, p - k.Commits[last], k.Commits[last] + p, k.Commits[last] - p, math.MinInt, math.MaxInt} {
		add(func(k *api.Keys) { k.Commits[last] = c })
		add(func(k *api.Keys) { k.Commits[0] = c })
	}
	return all
}

// rounds are of all sorts: 0, negative ones, and the least and the greatest ints.
func rounds() []int {
	l := []int{0, 1, -1, 2, 3, 9, 10, -10, 99, 12345, 1000000000, 1 << 32, p, q, -q, math.MaxInt - 1, math.MaxInt, math.MinInt, math.MinInt + 1}
	r := rand.New(rand.NewSource(1))
	for range 10 {
		l = append(l, some(r))
	}
	return l
}

// some returns ints of all lengths and both signs.
func some(r *rand.Rand) int {
	n := int(r.Uint64() >> r.Intn(64))
	if r.Intn(2) == 0 {
		return -n
	}
	return n
}

// one returns an element of l.
func one[T any](r *rand.Rand, l []T) T {
	return l[r.Intn(len(l))]
}

// short returns a text for a message.
func short(s string) string {
	if len(s) <= 600 {
		return strconv.Quote(s)
	}
	return strconv.Quote(s[:600]) + ".. of " + strconv.Itoa(len(s)) + " bytes"
}
