package deal_test

import (
	"math"
	"math/rand"
	"slices"
	"strings"
	"testing"

	"sortes/api"
	"sortes/deal"
	"sortes/group"
)

// P7.8

// round returns what Deal makes for n keys.
func round(t *testing.T, r *rand.Rand, n int) (coefs, secrets, keys []int, d api.Dealing) {
	t.Helper()
	secrets, keys = people(n)
	for range 1 + r.Intn(n) {
		coefs = append(coefs, r.Intn(q))
	}
	d, ok := deal.Deal(coefs, keys, "seed")
	if !ok {
		t.Fatalf("Deal of %d coefficients for %d keys is false", len(coefs), n)
	}
	return coefs, secrets, keys, d
}

// TestDealtIsOpened holds that every owner finds the share, and that a complaint of it is wrong.
func TestDealtIsOpened(t *testing.T) {
	r := rand.New(rand.NewSource(11))
	for _, n := range []int{1, 2, 3, 5, 12, 60} {
		coefs, secrets, keys, d := round(t, r, n)
		if !deal.Check(d, n) {
			t.Fatalf("Check of a dealing for %d keys is false", n)
		}
		for i, secret := range secrets {
			want := api.Share{X: i + 1, Y: deal.Value(coefs, i+1)}
			if s, ok := deal.Open(secret, d, i); !ok || s != want {
				t.Fatalf("Open of the box %d of %d: %v, %t, not %v", i, n, s, ok, want)
			}
			if got := deal.Judge(keys, d, deal.Complain(secret, d, i)); got != 2 {
				t.Fatalf("Judge of the box %d of %d: %d", i, n, got)
			}
		}
		if back, ok := deal.Read(deal.Text(d)); !ok || !alike(back, d) {
			t.Fatalf("Read of the Text of a dealing for %d keys", n)
		}
	}
}

// TestChangedIsJudged holds that the owner's complaint of a changed box is right exactly if the owner cannot open it.
func TestChangedIsJudged(t *testing.T) {
	r := rand.New(rand.NewSource(12))
	var found [3]int
	for range 400 {
		n := 1 + r.Intn(5)
		_, secrets, keys, d := round(t, r, n)
		at := r.Intn(n)
		switch r.Intn(4) {
		case 0:
			d.Boxes[at] = flipped(d.Boxes[at], r.Intn(128))
		case 1:
			d.Boxes[at] = strings.Repeat("a", 16)
		case 2:
			d = resealed(d, secrets[at], at, some(r))
		case 3:
			d.Boxes[at], d.Boxes[0] = d.Boxes[0], d.Boxes[at]
		}
		for i, secret := range secrets {
			_, ok := deal.Open(secret, d, i)
			got := deal.Judge(keys, d, deal.Complain(secret, d, i))
			if got != 1 && got != 2 || (got == 1) == ok {
				t.Fatalf("Open of the box %d of %d is %t, and Judge %d, with the box %d changed", i, n, ok, got, at)
			}
			found[got]++
		}
	}
	if found[1] < 100 || found[2] < 100 {
		t.Errorf("%v verdicts of each kind", found)
	}
}

// TestNobodyIsBlamed holds that no complaint of a dealing that Deal made is right, whoever makes it, and of whichever index.
func TestNobodyIsBlamed(t *testing.T) {
	r := rand.New(rand.NewSource(13))
	for range 30 {
		_, secrets, keys, d := round(t, r, 1+r.Intn(5))
		for _, secret := range append(numbers(), secrets...) {
			for i := range keys {
				c := deal.Complain(secret, d, i)
				for _, index := range []int{i, (i + 1) % len(keys), -1, len(keys)} {
					c.Index = index
					if deal.Judge(keys, d, c) == 1 {
						t.Fatalf("the complaint %v of %s is right", c, short(text(d)))
					}
				}
			}
		}
	}
}

// TestPublicValue holds that the public value is G to the power of the value.
func TestPublicValue(t *testing.T) {
	r := rand.New(rand.NewSource(14))
	for _, n := range []int{1, 2, 3, 10, 60} {
		coefs, _, _, d := round(t, r, n)
		for _, x := range append(numbers(), 4, 5, 60) {
			if got, want := deal.At(d.Commits, x), group.Pow(api.G, deal.Value(coefs, x), api.P); got != want {
				t.Fatalf("At(%v, %d) = %d, not %d", d.Commits, x, got, want)
			}
		}
	}
}

// TestExamples holds the examples of the chapter.
func TestExamples(t *testing.T) {
	if a, b := deal.Value([]int{3, 5, 1}, 2), deal.Value([]int{3, 5, 1}, 0); a != 17 || b != 3 {
		t.Errorf("Value of 3, 5, 1 at 2 and 0: %d, %d", a, b)
	}
	if a, b := deal.At(nil, 7), deal.At([]int{api.G}, 7); a != 1 || b != 4 {
		t.Errorf("At of no commitments, and of G: %d, %d", a, b)
	}
	if _, ok := deal.Deal([]int{1, 2}, []int{4}, ""); ok {
		t.Error("Deal with two coefficients for one key")
	}
	if _, ok := deal.Deal([]int{1}, []int{2}, ""); ok {
		t.Error("Deal with a key 2")
	}
	secrets, _, d := three()
	for _, secret := range secrets {
		if s, ok := deal.Open(secret, d, 5); ok || s != (api.Share{}) {
			t.Errorf("Open(%d, d, 5) = %v, %t", secret, s, ok)
		}
	}
	if s := deal.Text(api.Dealing{Commits: []int{4, 16}, Point: 64, Boxes: []string{"a", ""}}); s != "deal 2 4 16 64 61 " {
		t.Errorf("Text is %q", s)
	}
}

// R3

// TestOwnMemory holds that results share no memory with arguments, nor with other results.
func TestOwnMemory(t *testing.T) {
	coefs, keys := []int{3, 5, 1}, []int{64, 1024, 16}
	want := text(dealing(coefs, keys, "seed"))
	first, _ := deal.Deal(coefs, keys, "seed")
	second, _ := deal.Deal(coefs, keys, "seed")
	for i := range 3 {
		coefs[i], keys[i], second.Commits[i], second.Boxes[i] = 0, 0, 0, ""
	}
	if text(first) != want {
		t.Errorf("the dealing has become %s", text(first))
	}
	_ = append(first.Commits[:1], 9)
	_ = append(first.Boxes[:1], "b")
	first, _ = deal.Read(want)
	second, _ = deal.Read(want)
	for i := range 3 {
		second.Commits[i], second.Boxes[i] = 0, ""
	}
	if text(first) != want {
		t.Errorf("the dealing that was read has become %s", text(first))
	}
}

// answers are the results of all functions.
type answers struct {
	value, at, verdict int
	dealt, read        api.Dealing
	ok, in             [4]bool
	share              api.Share
	complaint          api.Complaint
	text               string
}

// all calls all functions.
func all(l, keys []int, d api.Dealing, c api.Complaint, n int, s string) answers {
	var a answers
	a.value, a.at = deal.Value(l, n), deal.At(l, n)
	a.dealt, a.ok[0] = deal.Deal(l, keys, s)
	a.in[0], a.in[1], a.in[2], a.in[3] = deal.Check(d, n), deal.Check(d, len(keys)), deal.Check(d, len(d.Boxes)), deal.Check(a.dealt, len(keys))
	a.share, a.ok[1] = deal.Open(n, d, c.Index)
	a.complaint = deal.Complain(n, d, c.Index)
	a.verdict = deal.Judge(keys, d, c)
	a.text = deal.Text(d)
	a.read, a.ok[2] = deal.Read(s)
	return a
}

func same(a, b answers) bool {
	dealings := alike(a.dealt, b.dealt) && alike(a.read, b.read)
	numbers := a.value == b.value && a.at == b.at && a.verdict == b.verdict && a.ok == b.ok && a.in == b.in
	return dealings && numbers && a.share == b.share && a.complaint == b.complaint && a.text == b.text
}

// P1 and R3 to R5: every call ends without a panic, for all arguments, answers the same again, and leaves its arguments as they are.
func TestAll(t *testing.T) {
	r := rand.New(rand.NewSource(15))
	pool := append(append(numbers(), members()...), strangers()...)
	list := func(most int) []int {
		var l []int
		for range r.Intn(most) {
			l = append(l, one(r, pool))
		}
		return l
	}
	words := append(boxes(), "deal 0 4", "deal 1 4 16 61", "deal 1 4", "deal -1 4 16", "deal")
	for range 3000 {
		l, keys, n, s := list(5), list(5), one(r, pool), one(r, words)
		_, d, index := garbled(r)
		c := api.Complaint{Index: index, Key: one(r, pool), Proof: api.Proof{C: one(r, pool), Z: one(r, pool)}}
		if r.Intn(3) == 0 {
			d = api.Dealing{Commits: list(4), Point: one(r, pool), Boxes: []string{one(r, words), one(r, words)}}
			c.Index = one(r, append(beyond(2), 0, 1))
		}
		if r.Intn(3) == 0 {
			_, keys, _ = three()
			c = complaint(one(r, []int{12345, -1, 3}), d, index)
		}
		oldList, oldKeys, old := slices.Clone(l), slices.Clone(keys), copied(d)
		first := all(l, keys, d, c, n, s)
		all(keys, l, first.read, first.complaint, n+1, first.text)
		if again := all(l, keys, d, c, n, s); !same(again, first) {
			t.Fatalf("two answers for %v, %v, %s, %v, %d and %s: %+v and %+v", l, keys, short(text(d)), c, n, short(s), first, again)
		}
		if !slices.Equal(l, oldList) || !slices.Equal(keys, oldKeys) || !alike(d, old) {
			t.Fatalf("%v, %v or %s has changed", oldList, oldKeys, short(text(old)))
		}
		if first.verdict != verdict(keys, d, c) || first.at < 0 || first.at >= p || first.value < 0 || first.value >= q {
			t.Fatalf("%+v", first)
		}
	}
	for _, n := range []int{math.MinInt, math.MaxInt} {
		all([]int{n}, []int{n}, api.Dealing{Commits: []int{n}, Point: n, Boxes: []string{""}}, api.Complaint{Index: n, Key: n, Proof: api.Proof{C: n, Z: n}}, n, "")
	}
}
