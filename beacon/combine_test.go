package beacon_test

import (
	"math"
	"math/rand"
	"slices"
	"testing"

	"sortes/api"
	"sortes/beacon"
)

// P9.3

// TestCombine takes partials of nobody, too few, just enough, and more, in any order.
func TestCombine(t *testing.T) {
	r := rand.New(rand.NewSource(11))
	for _, o := range offices(r) {
		enough := need(o.points())
		for _, n := range []int{0, 1, enough - 1, enough, enough + 1, o.points() - 1, o.points()} {
			if n < 0 || n > o.points() {
				continue
			}
			round := one(r, rounds())
			l := o.partials(round, o.drawn(r, n)...)
			if n < enough {
				combined(t, o.keys, round, l, api.ErrFew)
				continue
			}
			if got := combined(t, o.keys, round, l, api.OK); got.value != o.answer(round) || len(got.bad) != 0 {
				t.Fatalf("Combine of %d partials of %v for %d: %v, not %d", n, o.coefs, round, got, o.answer(round))
			}
		}
	}
}

// TestCombinePublished holds values that were computed without Go.
func TestCombinePublished(t *testing.T) {
	k := api.Keys{Commits: []int{32421771183310982, 1541368641617750576, 1436249343342019754}, Points: [][]int{{1, 2, 3, 4}, {5, 6}, {7}}}
	l := []api.Partial{
		{X: 7, Value: 1451682708466003605, Proof: api.Proof{C: 278422881483943672, Z: 689850857421289787}},
		{X: 2, Value: 448781403152125884, Proof: api.Proof{C: 1060294873510784347, Z: 447582625751494482}},
		{X: 5, Value: 1444064276720749363, Proof: api.Proof{C: 805146513108148363, Z: 668890096367654747}},
	}
	if got, bad, err := beacon.Combine(k, 41, l); got != 72711223348178367 || len(bad) != 0 || err != api.OK {
		t.Errorf("Combine is %d, %v, %d", got, bad, err)
	}
	if got, bad, err := beacon.Combine(k, 40, l); got != 0 || !slices.Equal(bad, []int{7, 2, 5}) || err != api.ErrFew {
		t.Errorf("Combine for another round is %d, %v, %d", got, bad, err)
	}
	example := api.Keys{Commits: []int{1024, 16}, Points: [][]int{{1, 2, 3, 4, 5}}}
	if got, _, err := beacon.Combine(example, 3, []api.Partial{beacon.Eval(api.Share{X: 1, Y: 7}, 3), beacon.Eval(api.Share{X: 4, Y: 13}, 3)}); got != 1757458598598152924 || err != api.OK {
		t.Errorf("Combine is %d, %d", got, err)
	}
}

// TestCombineKeys takes keys that are not right, with partials that are enough, and wrong ones.
func TestCombineKeys(t *testing.T) {
	r := rand.New(rand.NewSource(12))
	for _, o := range offices(r) {
		l := o.partials(3, o.drawn(r, min(o.points(), 4))...)
		wrong := o.partials(4, o.drawn(r, 1)...)
		for _, k := range spoiled(o.keys) {
			for _, partials := range [][]api.Partial{nil, l, wrong, slices.Concat(wrong, l), {{}}} {
				if got := combined(t, k, 3, partials, api.ErrArg); got.value != 0 || len(got.bad) != 0 {
					t.Fatalf("Combine of keys that are not right is %v", got)
				}
			}
		}
	}
	for _, n := range []int{60, 61} {
		o := withPoints(r, n)
		var l []api.Partial
		for x := range n {
			l = append(l, o.partial(x+1, 3))
		}
		combined(t, o.keys, 3, l, map[int]api.Errno{60: api.OK, 61: api.ErrArg}[n])
	}
}

// TestCombineNothing takes no partials.
func TestCombineNothing(t *testing.T) {
	for _, o := range offices(rand.New(rand.NewSource(13))) {
		for _, l := range [][]api.Partial{nil, {}} {
			if got := combined(t, o.keys, 3, l, api.ErrFew); got.value != 0 || len(got.bad) != 0 {
				t.Fatalf("Combine of nothing is %v", got)
			}
		}
	}
}

// TestCombineTwice takes partials of one point several times, with the same proof and with others: they count once, and are not bad.
func TestCombineTwice(t *testing.T) {
	r := rand.New(rand.NewSource(14))
	for _, o := range offices(r) {
		enough := need(o.points())
		few := o.drawn(r, enough-1)
		var l []api.Partial
		for k := range 3 {
			l = append(l, o.partials(5, few...)...)
			for _, x := range few {
				l = append(l, o.other(x, 5, k))
			}
		}
		r.Shuffle(len(l), func(i, j int) { l[i], l[j] = l[j], l[i] })
		if got := combined(t, o.keys, 5, l, api.ErrFew); len(got.bad) != 0 {
			t.Fatalf("bad is %v", got.bad)
		}
		all := o.drawn(r, enough)
		for _, x := range all {
			l = append(l, o.other(x, 5, 77), o.other(x, 5, 78), o.partial(x, 5))
		}
		if got := combined(t, o.keys, 5, l, api.OK); len(got.bad) != 0 || got.value != o.answer(5) {
			t.Fatalf("Combine is %v, not %d", got, o.answer(5))
		}
	}
}

// TestCombineWrong puts wrong partials before, between and behind right ones, also of the same points.
func TestCombineWrong(t *testing.T) {
	r := rand.New(rand.NewSource(15))
	for _, o := range offices(r) {
		round := one(r, rounds())
		enough := need(o.points())
		for _, n := range []int{enough - 1, enough, min(enough+2, o.points())} {
			right := o.partials(round, o.drawn(r, n)...)
			for range 3 {
				wrong := o.wrongs(eval(o.share(1+r.Intn(o.points())), round), round)
				r.Shuffle(len(wrong), func(i, j int) { wrong[i], wrong[j] = wrong[j], wrong[i] })
				wrong = wrong[:1+r.Intn(5)]
				o.mixed(t, round, right, wrong)
			}
		}
	}
}

// mixed fails unless Combine finds the wrong partials among the right ones, wherever they are.
func (o office) mixed(t *testing.T, round int, right, wrong []api.Partial) {
	t.Helper()
	err, value := api.OK, o.answer(round)
	if len(right) < len(o.keys.Commits) {
		err, value = api.ErrFew, 0
	}
	var points []int
	for _, y := range wrong {
		points = append(points, y.X)
	}
	half, some := len(right)/2, len(wrong)/2
	for _, l := range [][]api.Partial{
		slices.Concat(wrong, right),
		slices.Concat(right, wrong),
		slices.Concat(right[:half], wrong, right[half:]),
		slices.Concat(wrong[:some], right, wrong[some:]),
		slices.Concat(wrong[:some], right[:half], wrong[some:], right[half:], right[:half]),
	} {
		if got := combined(t, o.keys, round, l, err); got.value != value || !slices.Equal(got.bad, points) {
			t.Fatalf("Combine is %v, not %d and %v", got, value, points)
		}
	}
}

// TestCombineBefore takes a wrong partial before the right one of the same point: the right one counts.
func TestCombineBefore(t *testing.T) {
	r := rand.New(rand.NewSource(16))
	for _, o := range offices(r) {
		points := o.drawn(r, need(o.points()))
		right := o.partials(3, points...)
		var l []api.Partial
		for _, y := range right {
			wrong := y
			wrong.Value = times(y.Value, 4, p)
			l = append(l, wrong, y, wrong)
		}
		got := combined(t, o.keys, 3, l, api.OK)
		if got.value != o.answer(3) || len(got.bad) != 2*len(points) {
			t.Fatalf("Combine is %v", got)
		}
		// The same points as often as before, but one of them was never right.
		var few []api.Partial
		for i, y := range l {
			if i != 1 {
				few = append(few, y)
			}
		}
		combined(t, o.keys, 3, few, api.ErrFew)
	}
}

// TestCombineBad takes wrong partials alone: each has its place in bad, the same points as often as they come.
func TestCombineBad(t *testing.T) {
	o := example()
	strange := []int{3, 3, 0, -1, 6, 3, math.MaxInt, math.MinInt, 61, 5, 0, q + 1, 1}
	var l []api.Partial
	for _, x := range strange {
		l = append(l, api.Partial{X: x, Value: 4, Proof: api.Proof{C: 1, Z: 2}})
	}
	if got := combined(t, o.keys, 3, l, api.ErrFew); !slices.Equal(got.bad, strange) {
		t.Errorf("bad is %v, not %v", got.bad, strange)
	}
	l = append(l, o.partials(3, 4, 2)...)
	if got := combined(t, o.keys, 3, l, api.OK); !slices.Equal(got.bad, strange) || got.value != o.answer(3) {
		t.Errorf("Combine is %v", got)
	}
	if got := combined(t, o.keys, 3, make([]api.Partial, 3), api.ErrFew); !slices.Equal(got.bad, []int{0, 0, 0}) {
		t.Errorf("bad of zero partials is %v", got.bad)
	}
}

// TestCombineOutside takes partials that are right but for their point, which nobody has: they do not count.
func TestCombineOutside(t *testing.T) {
	r := rand.New(rand.NewSource(17))
	for _, o := range offices(r) {
		n := o.points()
		l := o.partials(3, o.drawn(r, need(n)-1)...)
		points := []int{n + 1, 0, -1, q + 1, q, n + 2, n + q}
		for _, x := range points {
			l = append(l, o.partial(x, 3))
		}
		if got := combined(t, o.keys, 3, l, api.ErrFew); !slices.Equal(got.bad, points) {
			t.Fatalf("bad is %v, not %v", got.bad, points)
		}
	}
}

// TestCombineAnything takes lists of right and wrong partials of all sorts.
func TestCombineAnything(t *testing.T) {
	r := rand.New(rand.NewSource(18))
	found := map[api.Errno]int{}
	for range 150 {
		o := withPoints(r, 1+r.Intn(12))
		round := some(r)
		var l []api.Partial
		for range r.Intn(10) {
			x := 1 + r.Intn(o.points())
			y := o.other(x, round, r.Intn(q))
			l = append(l, one(r, append(o.wrongs(y, round), o.partial(r.Intn(70)-5, round))))
			l = append(l, slices.Repeat([]api.Partial{y}, r.Intn(3))...)
		}
		r.Shuffle(len(l), func(i, j int) { l[i], l[j] = l[j], l[i] })
		k := o.keys
		if r.Intn(10) == 0 {
			k = one(r, spoiled(k))
		}
		want := combine(k, round, l)
		found[want.err]++
		combined(t, k, round, l, want.err)
	}
	if len(found) != 3 || found[api.OK] < 30 || found[api.ErrFew] < 15 {
		t.Errorf("the results were %v", found)
	}
}
