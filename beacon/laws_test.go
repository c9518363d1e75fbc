package beacon_test

import (
	"fmt"
	"math"
	"math/rand"
	"reflect"
	"slices"
	"testing"

	"sortes/api"
	"sortes/beacon"
	"sortes/deal"
	"sortes/weight"
)

// P9.5

// TestAnyPartials holds that any two of five partials, in both orders, lead to the same value.
func TestAnyPartials(t *testing.T) {
	o := example()
	for _, round := range []int{0, 3, -1, math.MaxInt, math.MinInt} {
		for a := 1; a <= 5; a++ {
			for b := 1; b <= 5; b++ {
				err, value := api.OK, o.answer(round)
				if a == b {
					err, value = api.ErrFew, 0
				}
				if got := combined(t, o.keys, round, o.partials(round, a, b), err); got.value != value || len(got.bad) != 0 {
					t.Fatalf("Combine of the points %d and %d for %d is %v", a, b, round, got)
				}
			}
		}
	}
}

// TestFourMembers holds that of four members with the weight 1 each, any two evaluate a round.
func TestFourMembers(t *testing.T) {
	r := rand.New(rand.NewSource(31))
	o := withPoints(r, 4)
	o.keys.Points = [][]int{{1}, {2}, {3}, {4}}
	for a := 1; a <= 4; a++ {
		combined(t, o.keys, 9, o.partials(9, a), api.ErrFew)
		for b := 1; b <= 4; b++ {
			if a != b {
				if got := combined(t, o.keys, 9, o.partials(9, a, b), api.OK); got.value != o.answer(9) {
					t.Fatalf("Combine of %d and %d is %d, not %d", a, b, got.value, o.answer(9))
				}
			}
		}
	}
}

// TestManyPartials holds that partials in any order, with wrong ones among them, lead to the same value.
func TestManyPartials(t *testing.T) {
	r := rand.New(rand.NewSource(32))
	for range 25 {
		o := withPoints(r, 1+r.Intn(60))
		round := some(r)
		l := o.partials(round, o.drawn(r, need(o.points())+r.Intn(o.points()-need(o.points())+1))...)
		wrong := 0
		for range r.Intn(6) {
			l = append(l, one(r, o.wrongs(l[0], round)))
			wrong++
		}
		r.Shuffle(len(l), func(i, j int) { l[i], l[j] = l[j], l[i] })
		value, bad, err := beacon.Combine(o.keys, round, l)
		if value != o.answer(round) || len(bad) != wrong || err != api.OK {
			t.Fatalf("Combine of %d partials for %d is %d, %v, %d, not %d", len(l), round, value, bad, err, o.answer(round))
		}
	}
}

// TestBasesDiffer holds that no two of many rounds have the same base.
func TestBasesDiffer(t *testing.T) {
	of := map[int]int{}
	for _, round := range rounds() {
		of[beacon.Base(round)] = round
	}
	for round := -2000; round <= 2000; round++ {
		b := beacon.Base(round)
		if other, ok := of[b]; ok && other != round {
			t.Fatalf("the rounds %d and %d have the base %d", round, other, b)
		}
		of[b] = round
	}
}

// dealt is members with keys, and the share of each point.
type dealt struct {
	keys   api.Keys
	shares []api.Share
}

// people returns members with these weights.
func people(weights ...int) (l []api.Member, total int) {
	for i, w := range weights {
		l, total = append(l, api.Member{Id: i, Weight: w}), total+w
	}
	return l, total
}

// dealings returns dealings of polynomials for as many keys as there are points, with these first coefficients, and what the boxes of each point contain.
func dealings(t *testing.T, r *rand.Rand, firsts []int, total int) (d []api.Dealing, boxes [][]int) {
	t.Helper()
	var secrets, public []int
	for range total {
		secrets = append(secrets, r.Intn(q))
		public = append(public, power(api.G, secrets[len(secrets)-1]))
	}
	for i, first := range firsts {
		coefs := []int{first}
		for range weight.Need(total) - 1 {
			coefs = append(coefs, r.Intn(q))
		}
		one, ok := deal.Deal(coefs, public, fmt.Sprint("seed", i))
		if !ok {
			t.Fatalf("Deal of %v", coefs)
		}
		d = append(d, one)
	}
	for i, secret := range secrets {
		boxes = append(boxes, nil)
		for _, one := range d {
			s, ok := deal.Open(secret, one, i)
			if !ok {
				t.Fatalf("Open of the box %d", i)
			}
			boxes[i] = append(boxes[i], s.Y)
		}
	}
	return d, boxes
}

// founded returns what members have to whom two numbers are dealt.
func founded(t *testing.T, r *rand.Rand, weights ...int) dealt {
	t.Helper()
	l, total := people(weights...)
	d, boxes := dealings(t, r, []int{r.Intn(q), r.Intn(q)}, total)
	k, ok := weight.Begin(l, d)
	if !ok {
		t.Fatalf("Begin with the weights %v", weights)
	}
	all := dealt{keys: k}
	for i, box := range boxes {
		all.shares = append(all.shares, api.Share{X: i + 1, Y: rest(large(0).Add(large(box[0]), large(box[1])), q)})
	}
	return all
}

// moved returns what members have to whom it is dealt again.
func (o dealt) moved(t *testing.T, r *rand.Rand, weights ...int) dealt {
	t.Helper()
	l, total := people(weights...)
	var from, firsts []int
	for _, i := range r.Perm(len(o.shares))[:len(o.keys.Commits)] {
		from, firsts = append(from, i+1), append(firsts, o.shares[i].Y)
	}
	d, boxes := dealings(t, r, firsts, total)
	k, ok := weight.Again(o.keys, l, from, d)
	if !ok || k.Commits[0] != o.keys.Commits[0] {
		t.Fatalf("Again with the weights %v", weights)
	}
	all := dealt{keys: k}
	for i, box := range boxes {
		y, _ := weight.Share(from, box)
		all.shares = append(all.shares, api.Share{X: i + 1, Y: y})
	}
	return all
}

// value returns what shares that are just enough lead to, and fails unless all partials are accepted.
func (o dealt) value(t *testing.T, r *rand.Rand, round int) int {
	t.Helper()
	var l []api.Partial
	for _, i := range r.Perm(len(o.shares))[:len(o.keys.Commits)] {
		l = append(l, beacon.Eval(o.shares[i], round))
		if !beacon.Verify(o.keys, round, l[len(l)-1]) {
			t.Fatalf("the partial of the share %v is not accepted", o.shares[i])
		}
	}
	value, bad, err := beacon.Combine(o.keys, round, l)
	if len(bad) != 0 || err != api.OK {
		t.Fatalf("Combine is %d, %v, %d", value, bad, err)
	}
	return value
}

// TestMoving holds that new members, to whom the secret was dealt again, evaluate rounds to the same values, and that the old shares are no longer good.
func TestMoving(t *testing.T) {
	r := rand.New(rand.NewSource(33))
	before := founded(t, r, 1, 1, 1, 1)
	for _, weights := range [][]int{{2, 3, 2}, {20, 20, 20}, {1}, {5, 4, 3, 2, 1}} {
		after := before.moved(t, r, weights...)
		for _, round := range []int{0, 7, -7, math.MaxInt} {
			value := before.value(t, r, round)
			if got := after.value(t, r, round); got != value {
				t.Fatalf("the value of %d is %d, and was %d", round, got, value)
			}
			if y := beacon.Eval(before.shares[0], round); len(before.shares) > 1 && beacon.Verify(after.keys, round, y) {
				t.Fatalf("the old partial %v is accepted", y)
			}
		}
		before = after
	}
}

// TestExamples holds the examples of the chapter.
func TestExamples(t *testing.T) {
	k := api.Keys{Commits: []int{1 << 10, 1 << 4}, Points: [][]int{{1, 2, 3, 4, 5}}}
	of := func(x, y int) api.Partial { return beacon.Eval(api.Share{X: x, Y: y}, 3) }
	if !beacon.Verify(k, 3, of(1, 7)) || beacon.Verify(k, 3, of(1, 8)) {
		t.Error("Verify of the partials of (1, 7) and (1, 8)")
	}
	want := power(base(3), 5)
	for _, x := range []struct {
		l    []api.Partial
		want result
	}{
		{[]api.Partial{of(1, 7), of(4, 13)}, result{want, nil, api.OK}},
		{[]api.Partial{of(1, 7), of(2, 10), of(2, 9)}, result{want, []int{2}, api.OK}},
		{[]api.Partial{of(1, 7), of(1, 7)}, result{0, nil, api.ErrFew}},
	} {
		value, bad, err := beacon.Combine(k, 3, x.l)
		if got := (result{value, bad, err}); !got.is(x.want) {
			t.Errorf("Combine of %v is %v, not %v", x.l, got, x.want)
		}
	}
	if got := beacon.Text(of(0, 1)); got != "0 0 0 0" {
		t.Errorf("Text of Eval of (0, 1) is %q", got)
	}
}

// R3

// roomy returns a copy of l with room behind its end that is not zero.
func roomy[T any](l []T, v T) []T {
	return append(slices.Clone(l), slices.Repeat([]T{v}, 9)...)[:len(l)]
}

// whole returns a copy of l with what is behind its end.
func whole[T any](l []T) []T {
	return slices.Clone(l[:cap(l)])
}

// TestArguments holds that arguments are not changed, nor what is behind their ends.
func TestArguments(t *testing.T) {
	r := rand.New(rand.NewSource(34))
	for range 30 {
		o := withPoints(r, 1+r.Intn(12))
		l := o.partials(3, o.drawn(r, o.points())...)
		l = append(append(l, o.wrongs(l[0], 3)...), l[0])
		r.Shuffle(len(l), func(i, j int) { l[i], l[j] = l[j], l[i] })
		l = roomy(l, api.Partial{X: 77})
		k := api.Keys{Commits: roomy(o.keys.Commits, 77), Points: roomy(o.keys.Points, []int{77})}
		for i := range k.Points {
			k.Points[i] = roomy(k.Points[i], 77)
		}
		if r.Intn(4) == 0 {
			k.Commits = k.Commits[1:]
		}
		state := func() []any {
			all := []any{whole(l), whole(k.Commits), len(k.Points)}
			for _, points := range whole(k.Points) {
				all = append(all, whole(points))
			}
			return all
		}
		before := state()
		_, bad, _ := beacon.Combine(k, 3, l)
		for _, y := range l {
			beacon.Verify(k, 3, y)
		}
		clear(bad[:cap(bad)])
		if !reflect.DeepEqual(before, state()) {
			t.Fatalf("the arguments %v were changed to %v", before, state())
		}
	}
}

// TestOwnMemory holds that results share no memory with each other.
func TestOwnMemory(t *testing.T) {
	o := example()
	l := append(o.partials(3, 1, 2), o.partials(4, 1, 2, 3)...)
	_, first, _ := beacon.Combine(o.keys, 3, l)
	_, second, _ := beacon.Combine(o.keys, 3, l)
	clear(second[:cap(second)])
	clear(l)
	if !slices.Equal(first, []int{1, 2, 3}) {
		t.Errorf("bad has become %v", first)
	}
	_ = append(first, 9)
	if _, third, _ := beacon.Combine(o.keys, 3, o.partials(4, 1, 2, 3)); !slices.Equal(third, []int{1, 2, 3}) || !slices.Equal(first, []int{1, 2, 3}) {
		t.Errorf("bad is %v", third)
	}
}

// R4 and P1

// answers are the results of all functions.
type answers struct {
	base     int
	eval     api.Partial
	verify   bool
	combine  result
	text     string
	read     api.Partial
	readable bool
}

// all calls all functions.
func all(k api.Keys, s api.Share, round int, l []api.Partial, words string) answers {
	a := answers{base: beacon.Base(round), eval: beacon.Eval(s, round)}
	a.combine.value, a.combine.bad, a.combine.err = beacon.Combine(k, round, l)
	for _, y := range l {
		a.verify = beacon.Verify(k, round, y)
		a.text = beacon.Text(y)
	}
	a.read, a.readable = beacon.Read(words)
	return a
}

// TestAnything calls all functions with arguments that may be anything, twice each: they answer as the words of the chapter want.
func TestAnything(t *testing.T) {
	r := rand.New(rand.NewSource(35))
	pool := slices.Concat(edges(), rounds())
	numbers := func(most int) []int {
		var l []int
		for range r.Intn(most) {
			l = append(l, one(r, []int{one(r, pool), r.Intn(5), 1, 4}))
		}
		return l
	}
	for range 1500 {
		k := api.Keys{Commits: numbers(4)}
		for range r.Intn(4) {
			k.Points = append(k.Points, numbers(4))
		}
		if r.Intn(3) == 0 {
			k = withPoints(r, 1+r.Intn(5)).keys
		}
		s := api.Share{X: one(r, []int{one(r, pool), r.Intn(62)}), Y: one(r, pool)}
		round := one(r, pool)
		l := []api.Partial{beacon.Eval(s, round)}
		for range r.Intn(4) {
			l = append(l, api.Partial{X: one(r, []int{one(r, pool), r.Intn(5)}), Value: one(r, pool), Proof: api.Proof{C: one(r, pool), Z: one(r, pool)}})
		}
		words := text(one(r, l))[r.Intn(3):]
		last := l[len(l)-1]
		read, readable := find(words)
		want := answers{base(round), eval(s, round), accepts(k, round, last), combine(k, round, l), text(last), read, readable}
		for range 2 {
			got := all(k, s, round, l, words)
			if !got.combine.is(want.combine) {
				t.Fatalf("Combine(%v, %d, %v) = %v, not %v", k, round, l, got.combine, want.combine)
			}
			got.combine = want.combine
			if !reflect.DeepEqual(got, want) {
				t.Fatalf("of %v, %v, %d, %v and %q: %v, not %v", k, s, round, l, words, got, want)
			}
		}
	}
}
