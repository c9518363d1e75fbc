package weight_test

import (
	"fmt"
	"math"
	"math/rand"
	"slices"
	"testing"

	"sortes/api"
	"sortes/deal"
	"sortes/group"
	"sortes/weight"
)

// P8.8

// drawn returns n different points, in any order.
func drawn(r *rand.Rand, n int) []int {
	var l []int
	for len(l) < n {
		if x := one(r, []int{1 + r.Intn(60), 1 + r.Intn(q-1), q - 1 - r.Intn(5)}); !slices.Contains(l, x) {
			l = append(l, x)
		}
	}
	return l
}

// TestAnySharesJoin holds that any Need shares of a polynomial lead to its first coefficient, and Lift to the power with it.
func TestAnySharesJoin(t *testing.T) {
	r := rand.New(rand.NewSource(31))
	for range 60 {
		n := 1 + r.Intn(20)
		coefs, _ := polynomial(r, n)
		base := one(r, members())
		var l, powers []api.Share
		for _, x := range drawn(r, n+r.Intn(3)) {
			l = append(l, api.Share{X: x, Y: value(coefs, x)})
			powers = append(powers, api.Share{X: x, Y: power(base, value(coefs, x))})
		}
		if got, ok := weight.Join(n, l); !ok || got != coefs[0] {
			t.Fatalf("Join of %d shares of %v: %d, %t", n, coefs, got, ok)
		}
		if got, ok := weight.Lift(n, powers); !ok || got != power(base, coefs[0]) {
			t.Fatalf("Lift of %d powers of %d with shares of %v: %d, %t", n, base, coefs, got, ok)
		}
		if got, ok := weight.Share(pointsOf(l)[:n], values(l)[:n]); !ok || got != coefs[0] {
			t.Fatalf("Share of %d values of %v: %d, %t", n, coefs, got, ok)
		}
	}
}

// values returns the numbers of shares.
func values(l []api.Share) []int {
	var all []int
	for _, s := range l {
		all = append(all, s.Y)
	}
	return all
}

// TestThirds holds that members with less than a third of the total have too few points, and all others together enough.
func TestThirds(t *testing.T) {
	r := rand.New(rand.NewSource(32))
	for range 200 {
		l := people(weights(r)...)
		all, ok := weight.Points(l)
		if !ok {
			t.Fatalf("Points(%v) is false", l)
		}
		total := len(slices.Concat(all...))
		for range 20 {
			few := 0
			for i := range l {
				if r.Intn(3) == 0 {
					few += len(all[i])
				}
			}
			if (3*few < total) != (few < weight.Need(total)) {
				t.Fatalf("%d of %d points, of which %d are needed", few, total, weight.Need(total))
			}
			if 3*few < total && (3*(total-few) <= 2*total || total-few < weight.Need(total)) {
				t.Fatalf("%d of %d points for the others, of which %d are needed", total-few, total, weight.Need(total))
			}
		}
	}
}

// office is members with keys, and what their points are worth.
type office struct {
	l       []api.Member
	keys    api.Keys
	numbers []int // the share of each point, from 1 on
}

// opened returns what the dealings have for each point.
func opened(t *testing.T, secrets []int, d []api.Dealing) [][]int {
	t.Helper()
	var all [][]int
	for i, secret := range secrets {
		var l []int
		for _, one := range d {
			s, ok := deal.Open(secret, one, i)
			if !ok {
				t.Fatalf("Open of the box %d", i)
			}
			l = append(l, s.Y)
		}
		all = append(all, l)
	}
	return all
}

// secretsOf returns a secret number for each point, and its public key.
func secretsOf(total int) (secrets, public []int) {
	for i := range total {
		secrets = append(secrets, 7+i*i*1234567890123)
		public = append(public, power(api.G, secrets[i]))
	}
	return secrets, public
}

// founded returns the office of members to whom several numbers are dealt, and their sum.
func founded(t *testing.T, r *rand.Rand, weights []int) (office, int) {
	t.Helper()
	l := people(weights...)
	total, _ := areRight(l)
	secrets, public := secretsOf(total)
	var d []api.Dealing
	sum := 0
	for i := range 1 + r.Intn(4) {
		coefs, _ := polynomial(r, weight.Need(total))
		one, ok := deal.Deal(coefs, public, fmt.Sprint("seed", i))
		if !ok {
			t.Fatalf("Deal of %v", coefs)
		}
		d, sum = append(d, one), (sum+coefs[0])%q
	}
	k, ok := weight.Begin(l, d)
	if !ok || !weight.Right(k) {
		t.Fatalf("Begin(%v, ..) = %v, %t", l, k, ok)
	}
	o := office{l: l, keys: k}
	for _, all := range opened(t, secrets, d) {
		number := 0
		for _, y := range all {
			number = (number + y) % q
		}
		o.numbers = append(o.numbers, number)
	}
	return o, sum
}

// moved returns the office of members to whom the secret of o is dealt again.
func moved(t *testing.T, r *rand.Rand, o office, weights []int) office {
	t.Helper()
	l := people(weights...)
	total, _ := areRight(l)
	secrets, public := secretsOf(total)
	var from []int
	var d []api.Dealing
	for _, i := range r.Perm(len(o.numbers))[:len(o.keys.Commits)] {
		coefs, _ := polynomial(r, weight.Need(total))
		coefs[0] = o.numbers[i]
		one, ok := deal.Deal(coefs, public, fmt.Sprint("again", i))
		if !ok {
			t.Fatalf("Deal of %v", coefs)
		}
		from, d = append(from, i+1), append(d, one)
	}
	k, ok := weight.Again(o.keys, l, from, d)
	if !ok || !weight.Right(k) || k.Commits[0] != o.keys.Commits[0] {
		t.Fatalf("Again(%v, %v, %v, ..) = %v, %t", o.keys, l, from, k, ok)
	}
	next := office{l: l, keys: k}
	for _, all := range opened(t, secrets, d) {
		y, ok := weight.Share(from, all)
		if !ok {
			t.Fatalf("Share(%v, %v) is false", from, all)
		}
		next.numbers = append(next.numbers, y)
	}
	return next
}

// holds fails unless the shares fit the keys, and any that are enough lead to the secret.
func (o office) holds(t *testing.T, r *rand.Rand, secret int) {
	t.Helper()
	n := weight.Need(len(o.numbers))
	var l []api.Share
	for _, i := range r.Perm(len(o.numbers)) {
		s := api.Share{X: i + 1, Y: o.numbers[i]}
		if deal.At(o.keys.Commits, s.X) != group.Pow(api.G, s.Y, api.P) {
			t.Fatalf("the share %v does not fit %v", s, o.keys.Commits)
		}
		l = append(l, s)
	}
	if got, ok := weight.Join(n, l); !ok || got != secret || group.Pow(api.G, secret, api.P) != o.keys.Commits[0] {
		t.Fatalf("Join of %d of %v: %d, %t, not %d", n, l, got, ok, secret)
	}
}

// TestMoving holds that a secret keeps its public key, and is led to by the shares that any members have, after it was dealt again and again.
func TestMoving(t *testing.T) {
	r := rand.New(rand.NewSource(33))
	for range 6 {
		o, secret := founded(t, r, weights(r))
		o.holds(t, r, secret)
		for range 3 {
			o = moved(t, r, o, weights(r))
			o.holds(t, r, secret)
		}
	}
	o, secret := founded(t, r, []int{20, 20, 20})
	o = moved(t, r, o, []int{1})
	o.holds(t, r, secret)
	o = moved(t, r, o, []int{20, 1, 19, 20})
	o.holds(t, r, secret)
}

// TestExamples holds the examples of the chapter.
func TestExamples(t *testing.T) {
	got, ok := weight.Points(people(2, 1, 3))
	if want := [][]int{{1, 2}, {3}, {4, 5, 6}}; !ok || !slices.EqualFunc(got, want, slices.Equal) {
		t.Errorf("Points of 2, 1, 3: %v, %t", got, ok)
	}
	for _, x := range [][3]int{{9, 2, 3}, {10, 3, 4}, {3, 0, 1}, {1, 0, 1}, {0, 0, 0}} {
		if a, b := weight.Most(x[0]), weight.Need(x[0]); a != x[1] || b != x[2] {
			t.Errorf("Most and Need of %d: %d, %d", x[0], a, b)
		}
	}
	if y, ok := weight.Join(2, []api.Share{{X: 1, Y: 7}, {X: 2, Y: 9}}); !ok || y != 5 {
		t.Errorf("Join(2) of (1, 7), (2, 9): %d, %t", y, ok)
	}
	if y, ok := weight.Join(2, []api.Share{{X: 1, Y: 7}, {X: 1, Y: 9}}); ok || y != 0 {
		t.Errorf("Join(2) of (1, 7), (1, 9): %d, %t", y, ok)
	}
	if y, ok := weight.Join(0, []api.Share{{X: 1, Y: 7}}); ok || y != 0 {
		t.Errorf("Join(0): %d, %t", y, ok)
	}
	if y, ok := weight.Lift(2, []api.Share{{X: 1, Y: 1 << 14}, {X: 2, Y: 1 << 18}}); !ok || y != 1<<10 {
		t.Errorf("Lift(2) of (1, G^7), (2, G^9): %d, %t", y, ok)
	}
	if y, ok := weight.Share([]int{1, 2}, []int{7, 9}); !ok || y != 5 {
		t.Errorf("Share of 1, 2 and 7, 9: %d, %t", y, ok)
	}
}

// R3

// overwrite sets all numbers of keys to 0, also those behind the ends of slices.
func overwrite(k api.Keys) {
	for _, l := range append(k.Points[:len(k.Points):len(k.Points)], k.Commits) {
		clear(l[:cap(l)])
	}
	clear(k.Points[:cap(k.Points)])
}

// TestOwnMemory holds that results share no memory with arguments, nor with other results, nor their parts with each other.
func TestOwnMemory(t *testing.T) {
	r := rand.New(rand.NewSource(34))
	h := handed(r, 4, []int{2, 1, 3})
	before := h.with(func(*handover) {})
	first, _ := weight.Again(h.old, h.l, h.from, h.d)
	second, _ := weight.Again(h.old, h.l, h.from, h.d)
	begun, _ := weight.Begin(h.l, h.d[:1])
	overwrite(second)
	if want, _ := again(h.old, h.l, h.from, h.d); !alike(first, want) {
		t.Errorf("the keys have become %v", first)
	}
	for i := range h.d {
		clear(h.d[i].Commits)
	}
	clear(h.l)
	clear(h.from)
	overwrite(h.old)
	if want, _ := again(before.old, before.l, before.from, before.d); !alike(first, want) {
		t.Errorf("the keys have become %v", first)
	}
	if want, _ := begin(before.l, before.d[:1]); !alike(begun, want) {
		t.Errorf("the first keys have become %v", begun)
	}
	all, _ := weight.Points(before.l)
	_, _ = append(all[0], 9), append(all[1], 9)
	other, _ := weight.Points(before.l)
	overwrite(api.Keys{Points: other})
	if want, _ := points(before.l); !slices.EqualFunc(all, want, slices.Equal) {
		t.Errorf("the points have become %v", all)
	}
}

// answers are the results of all functions.
type answers struct {
	points            [][]int
	need, most        int
	join, lift, share int
	begun, renewed    api.Keys
	right             bool
	ok                [6]bool
}

// all calls all functions.
func all(n int, h handover, shares []api.Share, l []int) answers {
	var a answers
	a.points, a.ok[0] = weight.Points(h.l)
	a.need, a.most = weight.Need(n), weight.Most(n)
	a.join, a.ok[1] = weight.Join(n, shares)
	a.lift, a.ok[2] = weight.Lift(n, shares)
	a.right = weight.Right(h.old)
	a.begun, a.ok[3] = weight.Begin(h.l, h.d)
	a.renewed, a.ok[4] = weight.Again(h.old, h.l, h.from, h.d)
	a.share, a.ok[5] = weight.Share(h.from, l)
	return a
}

func same(a, b answers) bool {
	keys := alike(a.begun, b.begun) && alike(a.renewed, b.renewed) && slices.EqualFunc(a.points, b.points, slices.Equal)
	numbers := a.need == b.need && a.most == b.most && a.join == b.join && a.lift == b.lift && a.share == b.share
	return keys && numbers && a.right == b.right && a.ok == b.ok
}

// put sets an element of l, if it has any.
func put[T any](r *rand.Rand, l []T, v T) {
	if len(l) > 0 {
		l[r.Intn(len(l))] = v
	}
}

// garbled returns a handover in which something may be anything.
func garbled(r *rand.Rand, h handover, pool []int) handover {
	return h.with(func(h *handover) {
		switch r.Intn(8) {
		case 0:
			put(r, h.old.Commits, one(r, pool))
		case 1:
			put(r, h.old.Points, []int{one(r, pool)})
		case 2:
			put(r, h.l, api.Member{Id: one(r, pool), Weight: one(r, pool), Public: one(r, pool)})
		case 3:
			put(r, h.from, one(r, pool))
		case 4:
			put(r, h.d, api.Dealing{Commits: []int{one(r, pool), one(r, pool)}, Point: one(r, pool), Boxes: []string{"", "box"}})
		case 5:
			h.d = h.d[:r.Intn(len(h.d)+1)]
		case 6:
			*h = handover{}
		}
	})
}

// P1 and R3 to R5: every call ends without a panic, for all arguments, answers the same again, and leaves its arguments as they are.
func TestAll(t *testing.T) {
	r := rand.New(rand.NewSource(35))
	pool := append(append(append(numbers(), members()...), strangers()...), noPoints()...)
	some := []handover{handed(r, 1, []int{1}), handed(r, 4, []int{2, 1, 3}), handed(r, 7, []int{1, 1, 1, 1}), handed(r, 9, []int{5})}
	for range 1500 {
		h := garbled(r, garbled(r, one(r, some), pool), pool)
		n := one(r, append(pool, 1, 1, 2, 2, 3))
		shares := shares(r, pool)
		l := values(shares)
		if r.Intn(2) == 0 && len(l) > len(h.from) {
			l = l[:len(h.from)]
		}
		before, oldShares, oldList := h.with(func(*handover) {}), slices.Clone(shares), slices.Clone(l)
		first := all(n, h, shares, l)
		all(n+1, handover{first.renewed, h.l, l, h.d}, shares, h.from)
		if again := all(n, h, shares, l); !same(again, first) {
			t.Fatalf("two answers for %d, %v, %v and %v: %+v and %+v", n, h, shares, l, first, again)
		}
		if fmt.Sprint(h) != fmt.Sprint(before) || !slices.Equal(shares, oldShares) || !slices.Equal(l, oldList) {
			t.Fatalf("%v, %v or %v has changed", before, oldShares, oldList)
		}
		renews(t, h.old, h.l, h.from, h.d, first.ok[4])
		begins(t, h.l, h.d, first.ok[3])
		rightly(t, h.old, first.right)
	}
	for _, n := range []int{math.MinInt, math.MaxInt} {
		k := api.Keys{Commits: []int{n}, Points: [][]int{{n}}}
		all(n, handover{k, []api.Member{{Id: n, Weight: n, Public: n}}, []int{n}, []api.Dealing{{Commits: []int{n}, Point: n, Boxes: []string{""}}}}, []api.Share{{X: n, Y: n}}, []int{n})
	}
}
