package deal_test

import (
	"math"
	"math/rand"
	"slices"
	"strings"
	"testing"

	"sortes/api"
	"sortes/deal"
)

// P7.1

func TestValue(t *testing.T) {
	r := rand.New(rand.NewSource(3))
	for _, l := range lists(r, numbers()) {
		for _, x := range numbers() {
			if got, want := deal.Value(l, x), value(l, x); got != want || got < 0 || got >= q {
				t.Fatalf("Value(%v, %d) = %d, not %d", l, x, got, want)
			}
		}
	}
	for _, a := range numbers() {
		for _, b := range numbers() {
			if got, want := deal.Value([]int{a}, b), exponent(a); got != want {
				t.Fatalf("Value of %d alone at %d is %d, not %d", a, b, got, want)
			}
			if got, want := deal.Value([]int{0, a}, b), times(a, b, q); got != want {
				t.Fatalf("Value of 0 and %d at %d is %d, not %d", a, b, got, want)
			}
		}
	}
}

func TestAt(t *testing.T) {
	r := rand.New(rand.NewSource(4))
	for _, sort := range [][]int{members(), strangers(), numbers()} {
		for _, l := range lists(r, sort) {
			for _, x := range numbers() {
				if got, want := deal.At(l, x), public(l, x); got != want || got < 0 || got >= p {
					t.Fatalf("At(%v, %d) = %d, not %d", l, x, got, want)
				}
			}
		}
	}
}

// TestNothing holds the values of no coefficients and of no commitments.
func TestNothing(t *testing.T) {
	for _, x := range numbers() {
		for _, l := range [][]int{nil, {}} {
			if v, a := deal.Value(l, x), deal.At(l, x); v != 0 || a != 1 {
				t.Fatalf("Value and At of nothing at %d are %d and %d", x, v, a)
			}
		}
	}
}

// TestValuesPublished holds results that were computed without Go.
func TestValuesPublished(t *testing.T) {
	for _, x := range []struct {
		coefs   []int
		x, want int
	}{
		{[]int{q - 1, q - 1, q - 1}, math.MaxInt, 1152921504516681268},
		{[]int{math.MinInt, math.MinInt, math.MinInt, math.MinInt}, math.MinInt, 8130496959276840},
		{[]int{1, 2, 3}, -1, 2},
		{[]int{5, 7}, q, 5},
		{[]int{5, 7}, q + 1, 12},
	} {
		if got := deal.Value(x.coefs, x.x); got != x.want {
			t.Errorf("Value(%v, %d) = %d, not %d", x.coefs, x.x, got, x.want)
		}
	}
	for _, x := range []struct {
		commits []int
		x, want int
	}{
		{[]int{4}, 7, 4},
		{[]int{4, 16, 64}, math.MaxInt, 2118115974273021981},
		{[]int{4, 16, 64}, math.MinInt, 1943174371438160460},
		{[]int{3, -4, p + 5}, -1, 1729382256910268688},
		{[]int{0, 2}, q, 0},
		{[]int{5, 0}, 3, 0},
		{[]int{2, math.MinInt, math.MaxInt}, 1e18, 2238731926030583999},
	} {
		if got := deal.At(x.commits, x.x); got != x.want {
			t.Errorf("At(%v, %d) = %d, not %d", x.commits, x.x, got, x.want)
		}
	}
}

// TestResidues holds that x plays a part by its residue modulo Q alone, also for commitments that are no members.
func TestResidues(t *testing.T) {
	r := rand.New(rand.NewSource(5))
	for _, l := range lists(r, append(strangers(), numbers()...))[:8] {
		for _, x := range []int{0, 1, 2, 12345, q - 1} {
			v, a := deal.Value(l, x), deal.At(l, x)
			for k := -7; k <= 6; k++ {
				if deal.Value(l, x+k*q) != v || deal.At(l, x+k*q) != a {
					t.Fatalf("Value and At of %v at %d, and of %d times Q more", l, x, k)
				}
			}
		}
	}
}

// P7.2

// dealt fails unless Deal answers as the words of the chapter want.
func dealt(t *testing.T, coefs, keys []int, seed string) {
	t.Helper()
	want := dealing(coefs, keys, seed)
	if got, ok := deal.Deal(coefs, keys, seed); !ok || !alike(got, want) {
		t.Fatalf("Deal(%v, %v, %s) = %s, %t, not %s", coefs, keys, short(seed), short(text(got)), ok, short(text(want)))
	}
}

// undealt fails unless Deal refuses its arguments.
func undealt(t *testing.T, coefs, keys []int) {
	t.Helper()
	if d, ok := deal.Deal(coefs, keys, "seed"); ok || !isZero(d) {
		t.Fatalf("Deal of %d coefficients and %d keys, %v and %v: %s, %t", len(coefs), len(keys), coefs, keys, short(text(d)), ok)
	}
}

func TestDeal(t *testing.T) {
	r := rand.New(rand.NewSource(6))
	for _, n := range []int{1, 2, 3, 7, 59, 60} {
		_, keys := people(n)
		for _, m := range []int{1, 2, n/3 + 1, n - 1, n} {
			if m < 1 || m > n {
				continue
			}
			var coefs []int
			for range m {
				coefs = append(coefs, one(r, []int{0, 1, 2, q - 2, q - 1, r.Intn(q), r.Intn(q)}))
			}
			dealt(t, coefs, keys, "seed")
		}
	}
	for _, key := range members() {
		dealt(t, []int{5}, []int{key}, "")
		dealt(t, []int{q - 1, 0}, []int{key, 4, key}, "a")
	}
	for _, c := range []int{0, 1, 255, 256, 1 << 32, q - 2, q - 1} {
		dealt(t, []int{c}, []int{4}, "")
		dealt(t, []int{c, q - 1, c}, []int{64, 1, 1}, "a")
		dealt(t, []int{0, 0, c}, []int{64, 1, 1}, "a")
	}
	for _, seed := range []string{"", "a", "seed", "Seed", "point/", "/", "0", "\x00", "\xff\x00", "caf\u00e9", strings.Repeat("a", 100000)} {
		dealt(t, []int{3, 5, 1}, []int{64, 1024, 16}, seed)
	}
}

// TestDealPublished holds dealings that were computed without Go.
func TestDealPublished(t *testing.T) {
	three := []int{64, 1024, 267741684105630090}
	for _, x := range []struct {
		coefs, keys []int
		seed, want  string
	}{
		{[]int{0}, []int{1}, "", "deal 1 1 1015844149917185884 c55076a1d84a342276c2d5cd77c9869f"},
		{[]int{7}, []int{4}, "abc", "deal 1 16384 842339172259319166 c253ecca7c89b509cc576c1d99bdc4c9"},
		{[]int{3, 5, 1}, three, "", "deal 3 64 1024 4 1015844149917185884 7ce7a40fb4c60c409e1e1edbf3480e1c dbba4b6185e3eea432af8552e0a1d1d0 2f43d1cf4461a8119d6202f3b117b0ae"},
		{[]int{3, 5}, three, "seed", "deal 2 64 1024 622571247005848611 6a25fa82b58d0ba0651a44ca2cf71414 e91bf8e1bbc32c7615a20308cf369564 8b2c914322173beaccaa924df87358d7"},
		{[]int{q - 1, q - 1, q - 1}, three, "\xff\x00", "deal 3 576460752303422895 576460752303422895 576460752303422895 1236038733497191037 4f3797984383868bedb5bc03ac218310 a26ab081efe160762196811b1e99d513 976a27975575df96a29120882d0d2bc8"},
		{[]int{q - 1, 0}, []int{64, 64}, "caf\u00e9", "deal 2 576460752303422895 1 614058890850109517 6c920d567247b6bb77927bc58514d628 3b061710666c6e496ef68d9afe043b8a"},
	} {
		d, ok := deal.Deal(x.coefs, x.keys, x.seed)
		if !ok || text(d) != x.want {
			t.Errorf("Deal(%v, %v, %q) = %s, %t, not %s", x.coefs, x.keys, x.seed, text(d), ok, x.want)
		}
	}
}

// TestDealCounts takes all numbers of coefficients and of keys around the limits.
func TestDealCounts(t *testing.T) {
	_, keys := people(62)
	coefs := slices.Repeat([]int{1}, 62)
	for _, n := range []int{0, 1, 2, 3, 59, 60, 61, 62} {
		for _, m := range []int{0, 1, 2, 3, 4, 58, 59, 60, 61, 62} {
			if n <= 60 && m >= 1 && m <= n {
				dealt(t, coefs[:m], keys[:n], "seed")
			} else {
				undealt(t, coefs[:m], keys[:n])
			}
		}
	}
	undealt(t, nil, nil)
	undealt(t, nil, []int{4})
	undealt(t, []int{1}, nil)
	undealt(t, []int{1}, slices.Repeat([]int{4}, 61))
	undealt(t, []int{1}, slices.Repeat([]int{4}, 100000))
	undealt(t, slices.Repeat([]int{1}, 100000), []int{4})
}

// TestDealStrangers puts numbers that do not fit in each place.
func TestDealStrangers(t *testing.T) {
	_, keys := people(4)
	coefs := []int{1, 2, 3}
	for i := range keys {
		for _, a := range strangers() {
			if belongs(a) {
				t.Fatalf("%d is a member", a)
			}
			l := slices.Clone(keys)
			l[i] = a
			undealt(t, coefs, l)
		}
	}
	for i := range coefs {
		for _, c := range numbers() {
			l := slices.Clone(coefs)
			l[i] = c
			if c >= 0 && c <= q-1 {
				dealt(t, l, keys, "seed")
			} else {
				undealt(t, l, keys)
				undealt(t, []int{c}, []int{4})
			}
		}
	}
}

// TestDealManyFaults takes arguments with two faults, or all.
func TestDealManyFaults(t *testing.T) {
	faults := [][2][]int{
		{nil, nil}, {nil, {2}}, {nil, slices.Repeat([]int{4}, 61)}, {nil, slices.Repeat([]int{2}, 61)},
		{{-1}, {2}}, {{q}, {0}}, {{-1, q}, {p, p}}, {{1, -1}, {64, 2}},
		{{1, q}, {4}}, {{-1, 1}, {4}}, {{1, 2}, {2}}, {{q, 1}, {p}}, {{-1}, nil},
		{{-1}, slices.Repeat([]int{4}, 61)}, {{1}, slices.Repeat([]int{2}, 61)}, {{q}, slices.Repeat([]int{0}, 61)},
		{slices.Repeat([]int{1}, 62), slices.Repeat([]int{4}, 61)}, {slices.Repeat([]int{-1}, 62), slices.Repeat([]int{2}, 61)},
	}
	for _, l := range faults {
		undealt(t, l[0], l[1])
	}
}

// P7.3

func TestCheck(t *testing.T) {
	for _, n := range []int{1, 2, 3, 60, 61, 200} {
		_, keys := people(n)
		for _, m := range []int{0, 1, n - 1, n, n + 1} {
			d := dealing(slices.Repeat([]int{7}, m), keys, "seed")
			for _, k := range []int{n, 0, 1, n - 1, n + 1, -n, 16, math.MinInt, math.MaxInt} {
				checked(t, d, k, k == n && m >= 1 && m <= n)
			}
		}
	}
	for _, d := range []api.Dealing{{}, {Point: 1}, {Point: 1, Commits: []int{1}}, {Point: 1, Boxes: []string{strings.Repeat("a", 16)}}} {
		for _, n := range []int{-1, 0, 1, 2, math.MinInt, math.MaxInt} {
			checked(t, d, n, false)
		}
	}
	checked(t, api.Dealing{Commits: []int{1}, Point: 1, Boxes: []string{strings.Repeat("\x00", 16)}}, 1, true)
}

// TestCheckBoxes puts boxes of other lengths in each place.
func TestCheckBoxes(t *testing.T) {
	_, keys := people(4)
	d := dealing([]int{1, 2}, keys, "seed")
	for i := range keys {
		for n := range 70 {
			checked(t, boxed(d, i, strings.Repeat("\x80", n)), 4, n == 16)
		}
		checked(t, boxed(d, i, strings.Repeat("\u00e9", 8)), 4, true)
		checked(t, boxed(d, i, strings.Repeat("\u00e9", 16)), 4, false)
	}
}

// TestCheckMembers puts members and others in the place of each commitment and of Point.
func TestCheckMembers(t *testing.T) {
	_, keys := people(3)
	d := dealing([]int{1, 2, 3}, keys, "seed")
	for _, a := range append(members(), strangers()...) {
		for i := range keys {
			l := slices.Clone(d.Commits)
			l[i] = a
			checked(t, commits(d, l...), 3, belongs(a))
		}
		checked(t, pointed(d, a), 3, belongs(a))
	}
	for _, a := range strangers() {
		for _, b := range strangers() {
			checked(t, pointed(commits(d, a, 4), b), 3, false)
			checked(t, commits(d, a, b), 3, false)
		}
		checked(t, boxed(pointed(d, a), 0, ""), 3, false)
		checked(t, boxed(commits(d, a), 0, ""), 3, false)
		checked(t, pointed(commits(d), a), 3, false)
		checked(t, pointed(d, a), 4, false)
	}
}
