package weight_test

import (
	"math"
	"math/rand"
	"slices"
	"testing"

	"sortes/api"
	"sortes/weight"
)

// rightly fails unless Right answers as the words of the chapter want, and as want says.
func rightly(t *testing.T, k api.Keys, want bool) {
	t.Helper()
	if isRight(k) != want {
		t.Fatalf("the words of the chapter make %t of %v", !want, k)
	}
	if got := weight.Right(k); got != want {
		t.Fatalf("Right(%v) = %t", k, got)
	}
}

// keys returns keys with n points, parted among members in some way.
func keys(r *rand.Rand, n int) api.Keys {
	_, commits := polynomial(r, need(n))
	k := api.Keys{Commits: commits}
	for x := 1; x <= n; {
		var l []int
		for range 1 + r.Intn(one(r, []int{1, 4, 30, 60})) {
			if x <= n {
				l = append(l, x)
				x++
			}
		}
		k.Points = append(k.Points, l)
	}
	return k
}

// P8.5: Right

func TestRight(t *testing.T) {
	r := rand.New(rand.NewSource(10))
	for n := 1; n <= 60; n++ {
		for range 3 {
			rightly(t, keys(r, n), true)
		}
	}
	for n := 61; n < 70; n++ {
		rightly(t, keys(r, n), false)
	}
	for _, c := range members() {
		rightly(t, api.Keys{Commits: []int{c}, Points: [][]int{{1}}}, true)
		rightly(t, api.Keys{Commits: []int{c, c}, Points: [][]int{{1, 2}, {3, 4}}}, true)
	}
}

// TestRightManyMembers holds that neither the number of members nor their weights have another limit than the points.
func TestRightManyMembers(t *testing.T) {
	for n := 55; n <= 65; n++ {
		var all []int
		var each [][]int
		for x := 1; x <= n; x++ {
			all = append(all, x)
			each = append(each, []int{x})
		}
		commits := slices.Repeat([]int{4}, need(n))
		rightly(t, api.Keys{Commits: commits, Points: [][]int{all}}, n <= 60)
		rightly(t, api.Keys{Commits: commits, Points: each}, n <= 60)
		rightly(t, api.Keys{Commits: slices.Repeat([]int{4}, 20), Points: [][]int{all}}, n <= 60 && n > 57)
	}
}

func TestRightPoints(t *testing.T) {
	four := []int{4, 16}
	for _, points := range [][][]int{
		nil, {}, {{}}, {nil}, {{}, {}}, {{1, 2, 3, 4}, {}}, {{}, {1, 2, 3, 4}}, {{1, 2}, {}, {3, 4}}, {{1, 2}, nil, {3, 4}}, {{1}, {2, 3, 4}, {}},
		{{1, 2, 4, 3}}, {{2, 1, 3, 4}}, {{3, 4}, {1, 2}}, {{4, 3, 2, 1}}, {{1, 2, 3, 5}}, {{1, 3, 4, 5}}, {{2, 3, 4, 5}}, {{0, 1, 2, 3}}, {{0, 1, 2, 3, 4}},
		{{1, 1, 2, 3}}, {{1, 2, 2, 3}}, {{1, 2}, {2, 3}}, {{1, 2, 3}, {3}}, {{1, 2, 3, 3, 4}}, {{1, 2, 3, 4, 4}}, {{1}, {1}, {1}, {1}}, {{0, 0, 0, 0}},
		{{1, 2, 3}}, {{1, 2, 3, 4, 5, 6, 7}}, {{1}}, {{-1, 2, 3, 4}}, {{1, 2, 3, math.MaxInt}}, {{math.MinInt, 2, 3, 4}}, {{1, 2, q + 3, 4}}, {{1}, {3}, {2}, {4}},
	} {
		rightly(t, api.Keys{Commits: four, Points: points}, false)
		for n := range 4 {
			rightly(t, api.Keys{Commits: slices.Repeat([]int{4}, n), Points: points}, isRight(api.Keys{Commits: slices.Repeat([]int{4}, n), Points: points}))
		}
	}
	for _, points := range [][][]int{{{1, 2, 3, 4}}, {{1}, {2, 3, 4}}, {{1, 2}, {3, 4}}, {{1}, {2}, {3}, {4}}, {{1, 2, 3, 4, 5}}, {{1, 2, 3, 4}, {5, 6}}} {
		rightly(t, api.Keys{Commits: four, Points: points}, true)
	}
}

func TestRightCommits(t *testing.T) {
	r := rand.New(rand.NewSource(11))
	for _, n := range []int{1, 3, 4, 6, 7, 30, 60} {
		k := keys(r, n)
		for _, m := range []int{0, 1, need(n) - 1, need(n), need(n) + 1, n, n + 1, 60} {
			other := kept(k)
			other.Commits = slices.Repeat([]int{16}, m)
			rightly(t, other, m == need(n))
		}
		for at := range k.Commits {
			for _, c := range strangers() {
				other := kept(k)
				other.Commits[at] = c
				rightly(t, other, false)
			}
		}
	}
	rightly(t, api.Keys{}, false)
	rightly(t, api.Keys{Commits: []int{}, Points: [][]int{}}, false)
	rightly(t, api.Keys{Commits: []int{4}}, false)
	rightly(t, api.Keys{Points: [][]int{{1}}}, false)
}

// P8.5: Begin

func TestBegin(t *testing.T) {
	r := rand.New(rand.NewSource(12))
	for range 60 {
		l := people(weights(r)...)
		total, _ := areRight(l)
		var firsts []int
		for range 1 + r.Intn(one(r, []int{1, 4, 14})) {
			firsts = append(firsts, r.Intn(q))
		}
		_, d := dealings(r, firsts, total)
		begins(t, l, d, true)
	}
	for _, c := range members() {
		begins(t, people(1), []api.Dealing{dealing([]int{c}, 1)}, true)
		begins(t, people(1, 2), []api.Dealing{dealing([]int{c}, 3), dealing([]int{c}, 3), dealing([]int{c}, 3)}, true)
		begins(t, people(2, 1, 1), []api.Dealing{dealing([]int{c, 4}, 4), dealing([]int{16, c}, 4)}, true)
	}
}

// TestBeginMany takes more dealings than there may be members.
func TestBeginMany(t *testing.T) {
	r := rand.New(rand.NewSource(13))
	for _, n := range []int{13, 14, 60, 61, 200} {
		_, d := dealings(r, slices.Repeat([]int{5}, n), 4)
		begins(t, people(1, 3), d, true)
	}
}

func TestBeginNothing(t *testing.T) {
	for _, l := range [][]int{{1}, {2, 1, 3}, {20, 20, 20}} {
		begins(t, people(l...), nil, false)
		begins(t, people(l...), []api.Dealing{}, false)
		begins(t, people(l...), []api.Dealing{{}}, false)
	}
	begins(t, nil, nil, false)
	begins(t, nil, []api.Dealing{{}}, false)
	begins(t, nil, []api.Dealing{dealing(nil, 0)}, false)
}

// TestBeginMembers takes members that are not right, with dealings that are in form for their total.
func TestBeginMembers(t *testing.T) {
	for _, l := range [][]int{
		{0}, {21}, {-1}, {5, 0}, {1, 21}, {20, 20, 20, 1}, {61}, {-3, 7}, {math.MaxInt, math.MaxInt, 6}, slices.Repeat([]int{1}, 14),
	} {
		total := 0
		for _, w := range l {
			total += w
		}
		begins(t, people(l...), []api.Dealing{dealing(slices.Repeat([]int{4}, need(total)), max(total, 0))}, false)
	}
	twice := people(2, 2)
	twice[1].Id = twice[0].Id
	begins(t, twice, []api.Dealing{dealing([]int{4, 4}, 4)}, false)
}

// spoiled returns, for a dealing for members with a total, dealings that are none for them, or not in form.
func spoiled(d api.Dealing, total int) []api.Dealing {
	var all []api.Dealing
	add := func(change func(d *api.Dealing)) {
		other := copied([]api.Dealing{d})[0]
		change(&other)
		all = append(all, other)
	}
	last := len(d.Commits) - 1
	add(func(d *api.Dealing) { *d = api.Dealing{} })
	add(func(d *api.Dealing) { d.Commits = nil })
	add(func(d *api.Dealing) { d.Commits = d.Commits[:last] })
	add(func(d *api.Dealing) { d.Commits = append(d.Commits, 4) })
	add(func(d *api.Dealing) { d.Commits = append(d.Commits, 1) })
	add(func(d *api.Dealing) { d.Commits = slices.Repeat([]int{4}, total+1) })
	add(func(d *api.Dealing) { d.Boxes = nil })
	add(func(d *api.Dealing) { d.Boxes = d.Boxes[1:] })
	add(func(d *api.Dealing) { d.Boxes = append(d.Boxes, d.Boxes[0]) })
	for _, at := range []int{0, total - 1} {
		for _, s := range []string{"", "fifteen bytes..", "seventeen bytes.."} {
			add(func(d *api.Dealing) { d.Boxes[at] = s })
		}
	}
	for _, a := range []int{0, -4, 2, p - 1, p, p + 4, math.MinInt, math.MaxInt} {
		add(func(d *api.Dealing) { d.Point = a })
		add(func(d *api.Dealing) { d.Commits[last] = a })
		add(func(d *api.Dealing) { d.Commits[0] = a })
	}
	return all
}

func TestBeginDealings(t *testing.T) {
	r := rand.New(rand.NewSource(14))
	for _, l := range [][]int{{1}, {1, 1, 1}, {2, 1, 1}, {2, 1, 3}, {5, 2}, {20, 20, 20}} {
		total, _ := areRight(people(l...))
		_, d := dealings(r, []int{3, 5, 7}, total)
		begins(t, people(l...), d, true)
		for at := range d {
			for _, bad := range spoiled(d[at], total) {
				other := slices.Clone(d)
				other[at] = bad
				begins(t, people(l...), other, false)
			}
		}
	}
}

// TestBeginNeed takes dealings in form whose polynomials have too few or too many coefficients for the total.
func TestBeginNeed(t *testing.T) {
	for _, total := range []int{1, 2, 3, 4, 6, 7, 20} {
		for n := 1; n <= total; n++ {
			begins(t, people(total), []api.Dealing{dealing(slices.Repeat([]int{16}, n), total)}, n == need(total))
		}
	}
	begins(t, people(2, 2), []api.Dealing{dealing([]int{4, 4}, 4), dealing([]int{4}, 4)}, false)
	begins(t, people(2, 2), []api.Dealing{dealing([]int{4, 4}, 4), dealing([]int{4, 4, 4}, 4)}, false)
	begins(t, people(1, 2), []api.Dealing{dealing([]int{4}, 3), dealing([]int{4, 4}, 3)}, false)
}

// published are dealings of 5 and 3, 17 and -1, and -3 and 12345: values of 11 + 5 x - x x at 6, 2 and 7, for members with a total of 4.
func published() []api.Dealing {
	return []api.Dealing{
		dealing([]int{1024, 64}, 4),
		dealing([]int{17179869184, 576460752303422895}, 4),
		dealing([]int{468374361246531102, 267741684105630090}, 4),
	}
}

// TestKeysPublished holds keys that were computed without Go.
func TestKeysPublished(t *testing.T) {
	points := [][]int{{1, 2}, {3}, {4}}
	k, ok := weight.Begin(people(2, 1, 1), published())
	if want := (api.Keys{Commits: []int{274877906944, 1978023936476389861}, Points: points}); !ok || !alike(k, want) {
		t.Errorf("Begin is %v, %t, not %v", k, ok, want)
	}
	old := api.Keys{Commits: []int{4194304, 1024, 576460752303422895}, Points: [][]int{{1, 2, 3}, {4, 5, 6, 7}}}
	k, ok = weight.Again(old, people(2, 1, 1), []int{6, 2, 7}, published())
	if want := (api.Keys{Commits: []int{4194304, 1036248520284509925}, Points: points}); !ok || !alike(k, want) {
		t.Errorf("Again is %v, %t, not %v", k, ok, want)
	}
}

// P8.6

// handover is what Again takes.
type handover struct {
	old  api.Keys
	l    []api.Member
	from []int
	d    []api.Dealing
}

// handed returns what a secret with n points is dealt again by, to members with these weights.
func handed(r *rand.Rand, n int, weights []int) handover {
	h := handover{old: keys(r, n), l: people(weights...)}
	total, _ := areRight(h.l)
	coefs, commits := polynomial(r, need(n))
	h.old.Commits = commits
	var firsts []int
	for _, x := range r.Perm(n)[:need(n)] {
		h.from = append(h.from, x+1)
		firsts = append(firsts, value(coefs, x+1))
	}
	_, h.d = dealings(r, firsts, total)
	return h
}

// with returns a handover in which something is changed, with memory of its own.
func (h handover) with(change func(h *handover)) handover {
	other := handover{kept(h.old), slices.Clone(h.l), slices.Clone(h.from), copied(h.d)}
	change(&other)
	return other
}

// goes fails unless Again answers as the words of the chapter want, and as fits says.
func (h handover) goes(t *testing.T, fits bool) {
	t.Helper()
	renews(t, h.old, h.l, h.from, h.d, fits)
}

// handovers are some between keys of all sizes.
func handovers(r *rand.Rand) []handover {
	var all []handover
	for _, n := range []int{1, 2, 3, 4, 6, 7, 13, 30} {
		all = append(all, handed(r, n, weights(r)), handed(r, n, []int{1}))
	}
	return append(all, handed(r, 4, []int{2, 1, 3}), handed(r, 60, []int{20, 20, 20}), handed(r, 9, []int{4, 4, 4}))
}

func TestAgain(t *testing.T) {
	r := rand.New(rand.NewSource(15))
	for _, h := range handovers(r) {
		h.goes(t, true)
	}
	for range 40 {
		handed(r, 1+r.Intn(20), weights(r)).goes(t, true)
	}
}

// TestAgainOld takes old keys that are not right.
func TestAgainOld(t *testing.T) {
	r := rand.New(rand.NewSource(16))
	for _, h := range handovers(r) {
		n := len(slices.Concat(h.old.Points...))
		for _, change := range []func(k *api.Keys){
			func(k *api.Keys) { *k = api.Keys{} },
			func(k *api.Keys) { k.Points = nil },
			func(k *api.Keys) { k.Points = append(k.Points, nil) },
			func(k *api.Keys) { k.Points[0] = append(k.Points[0], 1) },
			func(k *api.Keys) { k.Points = append(k.Points, []int{n + 2}) },
			func(k *api.Keys) { k.Points = append(k.Points, []int{n + 1, n + 2, n + 3}) },
			func(k *api.Keys) { k.Points[0][0] = 2 },
			func(k *api.Keys) { k.Commits = append(k.Commits, 1) },
			func(k *api.Keys) { k.Commits = k.Commits[1:] },
		} {
			h.with(func(h *handover) { change(&h.old) }).goes(t, false)
		}
		for _, c := range []int{0, -4, 2, p - 1, p, p + 4, math.MinInt} {
			h.with(func(h *handover) { h.old.Commits[len(h.old.Commits)-1] = c }).goes(t, false)
		}
	}
}

// TestAgainOldStranger takes old commitments that are no members, with dealings that fit them but for this.
func TestAgainOldStranger(t *testing.T) {
	old := api.Keys{Commits: []int{4 + p}, Points: [][]int{{1}}}
	renews(t, old, people(1), []int{1}, []api.Dealing{dealing([]int{4}, 1)}, false)
	old.Commits[0] = 4
	renews(t, old, people(1), []int{1}, []api.Dealing{dealing([]int{4}, 1)}, true)
	two := api.Keys{Commits: []int{4, p - 1}, Points: [][]int{{1, 2, 3, 4}}}
	d := []api.Dealing{dealing([]int{4}, 1), dealing([]int{4}, 1)}
	renews(t, two, people(1), []int{2, 4}, d, false)
	two.Commits[1] = 1
	renews(t, two, people(1), []int{2, 4}, d, true)
}

// TestAgainFrom takes points that old keys do not have, the same ones, others than those of the dealings, too few and too many.
func TestAgainFrom(t *testing.T) {
	r := rand.New(rand.NewSource(17))
	for _, h := range handovers(r) {
		n := len(slices.Concat(h.old.Points...))
		last := len(h.from) - 1
		for _, x := range append(noPoints(), n+1, n+2, 61, q-1, 2*n+1) {
			h.with(func(h *handover) { h.from[last] = x }).goes(t, false)
			h.with(func(h *handover) { h.from[0] = x }).goes(t, false)
		}
		h.with(func(h *handover) { h.from = nil }).goes(t, false)
		h.with(func(h *handover) { h.from = h.from[1:] }).goes(t, false)
		h.with(func(h *handover) { h.from = append(h.from, h.from[0]) }).goes(t, false)
		h.with(func(h *handover) { h.d = nil }).goes(t, false)
		h.with(func(h *handover) { h.d = h.d[1:] }).goes(t, false)
		h.with(func(h *handover) { h.d = append(h.d, h.d[0]) }).goes(t, false)
		h.with(func(h *handover) { h.from, h.d = h.from[1:], h.d[1:] }).goes(t, false)
		h.with(func(h *handover) { h.from, h.d = nil, nil }).goes(t, false)
		h.with(func(h *handover) { h.from, h.d = append(h.from, h.from[0]), append(h.d, h.d[0]) }).goes(t, false)
		if last > 0 {
			h.with(func(h *handover) { h.from[last], h.d[last] = h.from[0], h.d[0] }).goes(t, false)
			h.with(func(h *handover) { h.from[0], h.from[last] = h.from[last], h.from[0] }).goes(t, false)
			h.with(func(h *handover) {
				slices.Reverse(h.from)
				slices.Reverse(h.d)
			}).goes(t, true)
		}
	}
}

// TestAgainOutside takes a point that old keys do not have, with a dealing of its value: it would give the same public key.
func TestAgainOutside(t *testing.T) {
	r := rand.New(rand.NewSource(18))
	for _, n := range []int{1, 3, 4, 9, 60} {
		coefs, commits := polynomial(r, need(n))
		old := keys(r, n)
		old.Commits = commits
		for _, x := range []int{n, n + 1, n + 2, q - 1, 0, q} {
			var from, firsts []int
			for i := range need(n) - 1 {
				from = append(from, i+1)
				firsts = append(firsts, value(coefs, i+1))
			}
			from, firsts = append(from, x), append(firsts, value(coefs, x))
			_, d := dealings(r, firsts, 4)
			renews(t, old, people(2, 1, 1), from, d, x == n)
		}
	}
}

// TestAgainMoreMembers takes one point more than are needed, with the dealing of its value.
func TestAgainMoreMembers(t *testing.T) {
	r := rand.New(rand.NewSource(19))
	for _, n := range []int{2, 4, 9} {
		coefs, commits := polynomial(r, need(n))
		old := keys(r, n)
		old.Commits = commits
		var from, firsts []int
		for i := range need(n) + 1 {
			from = append(from, i+1)
			firsts = append(firsts, value(coefs, i+1))
		}
		_, d := dealings(r, firsts, 4)
		renews(t, old, people(1, 3), from, d, false)
		renews(t, old, people(1, 3), from[1:], d[1:], true)
		renews(t, old, people(1, 3), from[2:], d[2:], false)
		renews(t, old, people(1, 3), from[1:], d, false)
		renews(t, old, people(1, 3), from, d[:need(n)], false)
	}
}

// TestAgainMembers takes new members that are not right.
func TestAgainMembers(t *testing.T) {
	r := rand.New(rand.NewSource(20))
	h := handed(r, 5, []int{2, 2, 2, 2, 2, 2})
	h.goes(t, true)
	for _, change := range []func(h *handover){
		func(h *handover) { h.l = nil },
		func(h *handover) { h.l[5].Id = h.l[0].Id },
		func(h *handover) { h.l[0].Weight = 3 },
		func(h *handover) { h.l[0].Weight, h.l[1].Weight = 0, 4 },
		func(h *handover) { h.l[0].Weight, h.l[1].Weight = -1, 5 },
		func(h *handover) { h.l = h.l[1:] },
		func(h *handover) { h.l = append(h.l, api.Member{Id: 1, Weight: 1}) },
		func(h *handover) { h.l = append(h.l, api.Member{Id: 1, Weight: 0}) },
	} {
		h.with(change).goes(t, false)
	}
	h.with(func(h *handover) { h.l[0].Weight, h.l[1].Weight = 1, 3 }).goes(t, true)
	h.with(func(h *handover) { h.l = people(12) }).goes(t, true)
	for _, l := range [][]int{{21}, {20, 20, 21}, slices.Repeat([]int{1}, 14)} {
		total, _ := areRight(people(l...))
		first := api.Keys{Commits: []int{64}, Points: [][]int{{1}}}
		_, d := dealings(r, []int{3}, total)
		renews(t, first, people(l...), []int{1}, d, false)
	}
}

// TestAgainDealings takes dealings that are not in form, or for others.
func TestAgainDealings(t *testing.T) {
	r := rand.New(rand.NewSource(21))
	for _, h := range handovers(r) {
		total, _ := areRight(h.l)
		for _, at := range []int{0, len(h.d) - 1} {
			for _, bad := range spoiled(h.d[at], total) {
				h.with(func(h *handover) { h.d[at] = bad }).goes(t, false)
			}
		}
	}
}

// TestAgainFirst takes dealings of another number than the share of their point.
func TestAgainFirst(t *testing.T) {
	r := rand.New(rand.NewSource(22))
	for _, h := range handovers(r) {
		for at := range h.d {
			for _, c := range []int{1, 4, p - 2, times(h.d[at].Commits[0], 4, p), h.d[at].Commits[0] + p} {
				if c != h.d[at].Commits[0] {
					h.with(func(h *handover) { h.d[at].Commits[0] = c }).goes(t, false)
				}
			}
			h.with(func(h *handover) { h.old.Commits[0] = times(h.old.Commits[0], 4, p) }).goes(t, false)
		}
	}
}
