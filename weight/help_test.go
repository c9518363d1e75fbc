package weight_test

import (
	"fmt"
	"math"
	"math/big"
	"math/rand"
	"reflect"
	"slices"
	"strings"
	"testing"

	"sortes/api"
	"sortes/deal"
	"sortes/weight"
)

// The tests hold the package against math/big, and for what the chapter says by deal.Check and deal.At against package deal, through its exported functions only.

// P and Q as ints, so that sums of them wrap around where the tests want it.
var (
	p = api.P
	q = api.Q
)

func large(n int) *big.Int {
	return big.NewInt(int64(n))
}

// rest returns the number from 0 to m - 1 that differs from v by a multiple of m.
func rest(v *big.Int, m int) int {
	return int(new(big.Int).Mod(v, large(m)).Int64())
}

// times returns the residue of a product.
func times(a, b, m int) int {
	return rest(new(big.Int).Mul(large(a), large(b)), m)
}

// power returns the residue modulo P of a power with an exponent from 0 on.
func power(a, n int) int {
	return int(new(big.Int).Exp(large(rest(large(a), p)), large(n), large(p)).Int64())
}

// belongs says by the words of chapter 4 whether a is a member of the group.
func belongs(a int) bool {
	return a >= 1 && a <= p-1 && power(a, q) == 1
}

// value returns by the words of chapter 7 the value of coefficients at x.
func value(coefs []int, x int) int {
	sum := new(big.Int)
	for i, c := range coefs {
		term := new(big.Int).Exp(large(x), large(i), large(q))
		sum.Add(sum, term.Mul(term, large(c)))
	}
	return rest(sum, q)
}

// factor returns by the words of the chapter the factor of x among points.
func factor(points []int, x int) int {
	above, below := big.NewInt(1), big.NewInt(1)
	for _, y := range points {
		if y != x {
			above.Mul(above, large(y)).Mod(above, large(q))
			below.Mul(below, large(y-x)).Mod(below, large(q))
		}
	}
	return rest(above.Mul(above, below.ModInverse(below, large(q))), q)
}

func isPoint(x int) bool {
	return x >= 1 && x <= q-1
}

// counting returns by the words of the chapter the shares that count.
func counting(l []api.Share, fits func(y int) bool) []api.Share {
	var found []api.Share
	for _, s := range l {
		taken := slices.ContainsFunc(found, func(before api.Share) bool { return before.X == s.X })
		if isPoint(s.X) && !taken && fits(s.Y) {
			found = append(found, s)
		}
	}
	return found
}

func isExponent(y int) bool {
	return y >= 0 && y <= q-1
}

// pointsOf returns the points of shares.
func pointsOf(l []api.Share) []int {
	var points []int
	for _, s := range l {
		points = append(points, s.X)
	}
	return points
}

// join returns by the words of the chapter what Join does.
func join(need int, l []api.Share) (int, bool) {
	l = counting(l, isExponent)
	if need < 1 || len(l) < need {
		return 0, false
	}
	sum := new(big.Int)
	for _, s := range l[:need] {
		sum.Add(sum, large(times(s.Y, factor(pointsOf(l[:need]), s.X), q)))
	}
	return rest(sum, q), true
}

// lift returns by the words of the chapter what Lift does.
func lift(need int, l []api.Share) (int, bool) {
	l = counting(l, belongs)
	if need < 1 || len(l) < need {
		return 0, false
	}
	product := 1
	for _, s := range l[:need] {
		product = times(product, power(s.Y, factor(pointsOf(l[:need]), s.X)), p)
	}
	return product, true
}

// areDifferent says whether all are points, and no two the same.
func areDifferent(l []int) bool {
	for i, x := range l {
		if !isPoint(x) || slices.Contains(l[:i], x) {
			return false
		}
	}
	return true
}

// share returns by the words of the chapter what Share does.
func share(from, l []int) (int, bool) {
	if len(from) == 0 || !areDifferent(from) || len(l) != len(from) {
		return 0, false
	}
	sum := new(big.Int)
	for i, x := range from {
		sum.Add(sum, new(big.Int).Mul(large(l[i]), large(factor(from, x))))
	}
	return rest(sum, q), true
}

// areRight says by the words of the chapter whether members are right, and returns their total.
func areRight(l []api.Member) (int, bool) {
	total, good := new(big.Int), len(l) >= 1 && len(l) <= 13
	for i, m := range l {
		for _, other := range l[:i] {
			good = good && m.Id != other.Id
		}
		good = good && m.Weight >= 1 && m.Weight <= 20
		total.Add(total, large(m.Weight))
	}
	return int(total.Int64()), good && total.Cmp(large(60)) <= 0
}

// points returns by the words of the chapter what Points does.
func points(l []api.Member) ([][]int, bool) {
	if _, ok := areRight(l); !ok {
		return nil, false
	}
	var all [][]int
	before := 0
	for _, m := range l {
		all = append(all, nil)
		for x := before + 1; x <= before+m.Weight; x++ {
			all[len(all)-1] = append(all[len(all)-1], x)
		}
		before += m.Weight
	}
	return all, true
}

// most returns by the words of the chapter what Most does, for totals that are not great.
func most(total int) int {
	w := 0
	for 3*(w+1) < total {
		w++
	}
	return w
}

// need returns by the words of the chapter what Need does, for totals that are not great.
func need(total int) int {
	if total < 1 {
		return 0
	}
	return most(total) + 1
}

// isRight says by the words of the chapter whether keys are right.
func isRight(k api.Keys) bool {
	good := true
	for _, l := range k.Points {
		good = good && len(l) >= 1
	}
	all := slices.Concat(k.Points...)
	n := len(all)
	for i, x := range all {
		good = good && x == i+1
	}
	if !good || n < 1 || n > 60 || len(k.Commits) != need(n) {
		return false
	}
	for _, c := range k.Commits {
		good = good && belongs(c)
	}
	return good
}

// areFor says by the words of the chapter whether dealings are for members with a total.
func areFor(d []api.Dealing, total int) bool {
	for _, one := range d {
		if !deal.Check(one, total) || len(one.Commits) != need(total) {
			return false
		}
	}
	return true
}

// products returns the products of the commitments of dealings, each one to the power of an exponent.
func products(d []api.Dealing, exponents []int) []int {
	var l []int
	for j := range d[0].Commits {
		product := 1
		for i, one := range d {
			product = times(product, power(one.Commits[j], exponents[i]), p)
		}
		l = append(l, product)
	}
	return l
}

// begin returns by the words of the chapter what Begin does.
func begin(l []api.Member, d []api.Dealing) (api.Keys, bool) {
	total, ok := areRight(l)
	if !ok || len(d) == 0 || !areFor(d, total) {
		return api.Keys{}, false
	}
	of, _ := points(l)
	return api.Keys{Commits: products(d, slices.Repeat([]int{1}, len(d))), Points: of}, true
}

// again returns by the words of the chapter what Again does.
func again(old api.Keys, l []api.Member, from []int, d []api.Dealing) (api.Keys, bool) {
	total, ok := areRight(l)
	if !isRight(old) || !areDifferent(from) || len(from) != len(old.Commits) || len(d) != len(from) || !ok || !areFor(d, total) {
		return api.Keys{}, false
	}
	var exponents []int
	for i, x := range from {
		if !slices.Contains(slices.Concat(old.Points...), x) || d[i].Commits[0] != deal.At(old.Commits, x) {
			return api.Keys{}, false
		}
		exponents = append(exponents, factor(from, x))
	}
	of, _ := points(l)
	return api.Keys{Commits: products(d, exponents), Points: of}, true
}

// alike reports whether two keys are the same: a nil slice is like an empty one.
func alike(a, b api.Keys) bool {
	return slices.Equal(a.Commits, b.Commits) && slices.EqualFunc(a.Points, b.Points, slices.Equal)
}

// isZero reports whether k is the zero keys.
func isZero(k api.Keys) bool {
	return reflect.ValueOf(k).IsZero()
}

// agree fails unless a call has answered as the words of the chapter want; messages show the arguments.
func agree(t *testing.T, name string, got int, ok bool, want int, right bool, args ...any) {
	t.Helper()
	if got != want || ok != right {
		t.Fatalf("%s%s = %d, %t, not %d, %t", name, short(fmt.Sprintf("%v", args)), got, ok, want, right)
	}
}

// joins fails unless Join answers as the words of the chapter want, and returns whether it joins.
func joins(t *testing.T, n int, l []api.Share) bool {
	t.Helper()
	got, ok := weight.Join(n, l)
	want, right := join(n, l)
	agree(t, "Join", got, ok, want, right, n, l)
	return ok
}

// lifts fails unless Lift answers as the words of the chapter want, and returns whether it lifts.
func lifts(t *testing.T, n int, l []api.Share) bool {
	t.Helper()
	got, ok := weight.Lift(n, l)
	want, right := lift(n, l)
	agree(t, "Lift", got, ok, want, right, n, l)
	return ok
}

// shared fails unless Share answers as the words of the chapter want, and returns whether there is a sum.
func shared(t *testing.T, from, l []int) bool {
	t.Helper()
	got, ok := weight.Share(from, l)
	want, right := share(from, l)
	agree(t, "Share", got, ok, want, right, from, l)
	return ok
}

// begins fails unless Begin answers as the words of the chapter want, and as fits says.
func begins(t *testing.T, l []api.Member, d []api.Dealing, fits bool) {
	t.Helper()
	got, ok := weight.Begin(l, d)
	want, right := begin(l, d)
	if right != fits {
		t.Fatalf("the words of the chapter make %t of %v and %v", right, l, short(fmt.Sprint(d)))
	}
	if ok != right || !alike(got, want) || !ok && !isZero(got) {
		t.Fatalf("Begin(%v, %s) = %v, %t, not %v, %t", l, short(fmt.Sprint(d)), got, ok, want, right)
	}
}

// renews fails unless Again answers as the words of the chapter want, and as fits says.
func renews(t *testing.T, old api.Keys, l []api.Member, from []int, d []api.Dealing, fits bool) {
	t.Helper()
	got, ok := weight.Again(old, l, from, d)
	want, right := again(old, l, from, d)
	if right != fits {
		t.Fatalf("the words of the chapter make %t of %v, %v, %v and %s", right, old, l, from, short(fmt.Sprint(d)))
	}
	if ok != right || !alike(got, want) || !ok && !isZero(got) {
		t.Fatalf("Again(%v, %v, %v, %s) = %v, %t, not %v, %t", old, l, from, short(fmt.Sprint(d)), got, ok, want, right)
	}
}

// people returns members with these weights.
func people(weights ...int) []api.Member {
	var l []api.Member
	for i, w := range weights {
		l = append(l, api.Member{Id: 7 * (i + 1), Weight: w, Public: i})
	}
	return l
}

// some returns ints of all lengths and both signs.
func some(r *rand.Rand) int {
	n := int(r.Uint64() >> r.Intn(64))
	if r.Intn(2) == 0 {
		return -n
	}
	return n
}

// one returns an element of l.
func one[T any](r *rand.Rand, l []T) T {
	return l[r.Intn(len(l))]
}

// weights returns weights of which a member may have each, with a total of at most 60.
func weights(r *rand.Rand) []int {
	for {
		var l []int
		total := 0
		for range 1 + r.Intn(13) {
			l = append(l, 1+r.Intn(one(r, []int{1, 5, 20})))
			total += l[len(l)-1]
		}
		if total <= 60 {
			return l
		}
	}
}

// polynomial returns coefficients, and the numbers that commit to them.
func polynomial(r *rand.Rand, n int) (coefs, commits []int) {
	for range n {
		coefs = append(coefs, one(r, []int{0, 1, q - 1, r.Intn(q), r.Intn(q), r.Intn(q)}))
		commits = append(commits, power(api.G, coefs[len(coefs)-1]))
	}
	return coefs, commits
}

// dealing returns a dealing with n boxes, of which nobody knows what they contain.
func dealing(commits []int, n int) api.Dealing {
	return api.Dealing{Commits: commits, Point: 64, Boxes: slices.Repeat([]string{"a box with bytes"}, n)}
}

// dealings returns dealings for members with these weights, as many as there are numbers that their polynomials begin with, and the polynomials.
func dealings(r *rand.Rand, firsts []int, total int) (coefs [][]int, d []api.Dealing) {
	for _, first := range firsts {
		l, commits := polynomial(r, need(total))
		l[0], commits[0] = first, power(api.G, first)
		coefs = append(coefs, l)
		d = append(d, dealing(commits, total))
	}
	return coefs, d
}

// copied returns dealings that share no memory with d.
func copied(d []api.Dealing) []api.Dealing {
	var l []api.Dealing
	for _, one := range d {
		l = append(l, api.Dealing{Commits: slices.Clone(one.Commits), Point: one.Point, Boxes: slices.Clone(one.Boxes)})
	}
	return l
}

// kept returns keys that share no memory with k.
func kept(k api.Keys) api.Keys {
	var all [][]int
	for _, l := range k.Points {
		all = append(all, slices.Clone(l))
	}
	return api.Keys{Commits: slices.Clone(k.Commits), Points: all}
}

// members are members of the group of all sorts: the least and the greatest ones, powers of G, and squares.
func members() []int {
	l := []int{1, api.G, 16, 64, p - 2}
	for n := 3; len(l) < 12; n++ {
		for _, a := range []int{n, p - n} {
			if big.Jacobi(large(a), large(p)) == 1 {
				l = append(l, a)
			}
		}
	}
	r := rand.New(rand.NewSource(1))
	for range 8 {
		l = append(l, power(api.G, r.Intn(q)))
	}
	slices.Sort(l)
	return slices.Compact(l)
}

// strangers are numbers of all sorts that are no members.
func strangers() []int {
	l := []int{0, -1, 2, -2, -4, -16, p - 4, p - 1, p, p + 1, p + 2, p + 4, 2 * p, 2*p + 1, -p, 1 - p, 4 - p, -2 * p, 1 - 4*p, math.MaxInt - 1, math.MaxInt, math.MinInt, math.MinInt + 1, math.MinInt + 4}
	for _, a := range members()[:6] {
		l = append(l, p-a, -a, a+p, a-p)
	}
	slices.Sort(l)
	return slices.Compact(l)
}

// numbers are ints of all sorts: 0, negative ones, those near multiples of Q, and the least and the greatest ints.
func numbers() []int {
	l := []int{0, 1, -1, 2, -2, 3, 255, 256, 1 << 32, 1 << 60, p - 1, p, p + 1, math.MaxInt - 1, math.MaxInt, math.MinInt, math.MinInt + 1}
	for _, k := range []int{-7, -2, -1, 1, 2, 6, 7} {
		l = append(l, k*q-1, k*q, k*q+1)
	}
	r := rand.New(rand.NewSource(2))
	for range 12 {
		l = append(l, some(r))
	}
	return l
}

// noPoints are numbers that are no points, some of which have residues that are.
func noPoints() []int {
	return []int{0, -1, -2, q, q + 1, q + 2, 2*q + 1, 1 - q, -q, 1 - 2*q, p, math.MaxInt, math.MinInt}
}

// short returns a text for a message.
func short(s string) string {
	s = strings.ReplaceAll(s, "a box with bytes", "#")
	if len(s) <= 600 {
		return s
	}
	return fmt.Sprintf("%s.. of %d bytes", s[:600], len(s))
}
