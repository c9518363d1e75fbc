package weight_test

import (
	"math"
	"math/rand"
	"slices"
	"testing"

	"sortes/api"
	"sortes/weight"
)

// P8.3 and P8.4

// needs are numbers of shares of all sorts, of which n count.
func needs(n int) []int {
	return []int{math.MinInt, -n, -1, 0, 1, 2, n - 1, n, n + 1, n + 2, 2 * n, 1 << 40, math.MaxInt}
}

// abscissas are numbers of all sorts at which a share may be: few, so that some come twice.
func abscissas(r *rand.Rand) []int {
	return append(noPoints(), 1, 1, 2, 2, 3, 4, 5, 60, 1<<32, 1<<59, q/2, q/2+1, q-2, q-1, 1+r.Intn(q-1), 1+r.Intn(q-1))
}

// shares are some shares with these numbers.
func shares(r *rand.Rand, numbers []int) []api.Share {
	var l []api.Share
	at := abscissas(r)
	for range r.Intn(14) {
		l = append(l, api.Share{X: one(r, at), Y: one(r, numbers)})
	}
	return l
}

func TestJoin(t *testing.T) {
	r := rand.New(rand.NewSource(5))
	found := 0
	for range 3000 {
		l := shares(r, append(numbers(), 5, q/2, r.Intn(q), r.Intn(q), r.Intn(q)))
		for _, n := range needs(len(counting(l, isExponent))) {
			if joins(t, n, l) {
				found++
			}
		}
	}
	if found < 5000 {
		t.Errorf("only %d of all shares are joined", found)
	}
}

func TestLift(t *testing.T) {
	r := rand.New(rand.NewSource(6))
	found := 0
	for range 300 {
		l := shares(r, append(members(), strangers()...))
		for _, n := range needs(len(counting(l, belongs))) {
			if lifts(t, n, l) {
				found++
			}
		}
	}
	if found < 500 {
		t.Errorf("only %d of all shares are lifted", found)
	}
}

// TestSharesNumbers holds which numbers count, alone and before others.
func TestSharesNumbers(t *testing.T) {
	for _, y := range append(numbers(), q/2, 1<<59) {
		l := []api.Share{{X: 3, Y: y}, {X: 3, Y: 5}, {X: 9, Y: 7}}
		if joins(t, 1, l[:1]) != isExponent(y) || !joins(t, 1, l) || !joins(t, 2, l) || joins(t, 3, l) {
			t.Fatalf("Join of shares of which the first one has the number %d", y)
		}
	}
	for _, y := range append(members(), strangers()...) {
		l := []api.Share{{X: 3, Y: y}, {X: 3, Y: 16}, {X: 9, Y: 64}}
		if lifts(t, 1, l[:1]) != belongs(y) || !lifts(t, 1, l) || !lifts(t, 2, l) || lifts(t, 3, l) {
			t.Fatalf("Lift of shares of which the first one has the number %d", y)
		}
	}
}

// TestSharesPoints holds which points count, alone and beside others that have the same residue.
func TestSharesPoints(t *testing.T) {
	for _, x := range append(numbers(), noPoints()...) {
		l := []api.Share{{X: x, Y: 16}, {X: 40, Y: 64}, {X: 41, Y: 4}}
		if joins(t, 1, l[:1]) != isPoint(x) || lifts(t, 1, l[:1]) != isPoint(x) {
			t.Fatalf("Join and Lift of a share at %d", x)
		}
		for n := 1; n <= 4; n++ {
			joins(t, n, l)
			lifts(t, n, l)
		}
		for _, k := range []int{-2, -1, 1, 2} {
			near := []api.Share{{X: x, Y: 16}, {X: x + k*q, Y: 64}}
			joins(t, 2, near)
			lifts(t, 2, near)
		}
	}
	for _, x := range noPoints() {
		l := []api.Share{{X: x, Y: 16}, {X: 2, Y: 64}}
		if joins(t, 2, l) || lifts(t, 2, l) || !joins(t, 1, l) || !lifts(t, 1, l) {
			t.Fatalf("Join and Lift of a share at %d and one at 2", x)
		}
	}
}

// TestSharesTwice holds that only the first share of each point counts, even if another one is the right one.
func TestSharesTwice(t *testing.T) {
	for _, l := range [][]api.Share{
		{{X: 1, Y: 64}, {X: 1, Y: 16}},
		{{X: 1, Y: 64}, {X: 1, Y: 64}, {X: 1, Y: 1}},
		{{X: q - 1, Y: 1}, {X: q - 1, Y: 4}, {X: q - 1, Y: 16}},
	} {
		if joins(t, 2, l) || lifts(t, 2, l) || !joins(t, 1, l) || !lifts(t, 1, l) {
			t.Fatalf("Join and Lift of %v", l)
		}
		for _, more := range []api.Share{{X: 5, Y: 16}, {X: q - 2, Y: 4}} {
			for at := range len(l) + 1 {
				mixed := slices.Insert(slices.Clone(l), at, more)
				if !joins(t, 2, mixed) || !lifts(t, 2, mixed) || joins(t, 3, mixed) || lifts(t, 3, mixed) {
					t.Fatalf("Join and Lift of %v", mixed)
				}
			}
		}
	}
}

// TestSharesFirst holds that shares after those that are needed change nothing.
func TestSharesFirst(t *testing.T) {
	r := rand.New(rand.NewSource(7))
	for n := 1; n <= 21; n++ {
		var l []api.Share
		for i := range n {
			l = append(l, api.Share{X: i + 1, Y: power(api.G, r.Intn(q)) % q})
		}
		want, ok := weight.Join(n, l)
		if joins(t, n+1, l) || !ok {
			t.Fatalf("Join of %d shares", n)
		}
		for _, more := range []api.Share{{X: n + 1, Y: 5}, {X: 1, Y: 0}, {X: 0, Y: 0}, {X: n + 1, Y: -1}, {X: q - 1, Y: q}} {
			l = append(l, more)
			if got, ok := weight.Join(n, l); !ok || got != want {
				t.Fatalf("Join of %d of %v: %d, %t, not %d", n, l, got, ok, want)
			}
		}
	}
}

// TestSharesMany takes as many shares as there are points in a round, and more.
func TestSharesMany(t *testing.T) {
	r := rand.New(rand.NewSource(8))
	for _, n := range []int{20, 59, 60, 61, 100} {
		var l, m []api.Share
		for range n {
			x := 1 + r.Intn(q-1)
			l = append(l, api.Share{X: x, Y: r.Intn(q)})
			m = append(m, api.Share{X: x, Y: one(r, members())})
		}
		if !joins(t, n, l) || !lifts(t, n, m) || joins(t, n+1, l) || lifts(t, n+1, m) {
			t.Fatalf("Join and Lift of %d shares", n)
		}
	}
}

// TestSharesNone takes no shares, and none that count.
func TestSharesNone(t *testing.T) {
	for _, l := range [][]api.Share{nil, {}, {{}}, {{X: 0, Y: 4}, {X: 1, Y: -4}}, make([]api.Share, 30)} {
		for _, n := range append(needs(len(l)), numbers()...) {
			if joins(t, n, l) || lifts(t, n, l) {
				t.Fatalf("Join and Lift of %d of %v", n, l)
			}
		}
	}
}

// TestSharesPublished holds results that were computed without Go.
func TestSharesPublished(t *testing.T) {
	var cubes, squares []api.Share
	for x := 1; x <= 20; x++ {
		cubes = append(cubes, api.Share{X: x, Y: x * x * x})
		squares = append(squares, api.Share{X: x, Y: x * x})
	}
	for _, x := range []struct {
		l    []api.Share
		want int
	}{
		{[]api.Share{{X: 5, Y: 9}}, 9},
		{[]api.Share{{X: q - 1, Y: q - 1}}, q - 1},
		{[]api.Share{{X: 1, Y: 0}, {X: 2, Y: 0}}, 0},
		{[]api.Share{{X: 1, Y: q - 1}, {X: 2, Y: q - 1}}, q - 1},
		{[]api.Share{{X: 1, Y: 1}, {X: 2, Y: 0}, {X: 3, Y: 0}}, 3},
		{[]api.Share{{X: q - 1, Y: 1}, {X: 1, Y: 2}, {X: q - 2, Y: 3}}, 768614336404563860},
		{[]api.Share{{X: 60, Y: 1e18}, {X: 7, Y: 3}, {X: 1 << 59, Y: q - 5}, {X: 12, Y: 1}}, 72701112483776705},
		{cubes, 0},
	} {
		if got, ok := weight.Join(len(x.l), x.l); !ok || got != x.want {
			t.Errorf("Join of %v = %d, %t, not %d", x.l, got, ok, x.want)
		}
	}
	for _, x := range []struct {
		l    []api.Share
		want int
	}{
		{[]api.Share{{X: 5, Y: 16}}, 16},
		{[]api.Share{{X: q - 1, Y: p - 2}}, p - 2},
		{[]api.Share{{X: 1, Y: 1}, {X: 2, Y: 1}}, 1},
		{[]api.Share{{X: 1, Y: 4}, {X: 2, Y: 16}}, 1},
		{[]api.Share{{X: q - 1, Y: 64}, {X: 1, Y: 3}, {X: q - 2, Y: p - 2}}, 141442557501405880},
		{[]api.Share{{X: 60, Y: 4}, {X: 7, Y: 16}, {X: 1 << 59, Y: 64}, {X: 12, Y: 256}}, 1646032434889045797},
		{squares, 300387518952741404},
	} {
		if got, ok := weight.Lift(len(x.l), x.l); !ok || got != x.want {
			t.Errorf("Lift of %v = %d, %t, not %d", x.l, got, ok, x.want)
		}
	}
}

// P8.7

func TestShare(t *testing.T) {
	r := rand.New(rand.NewSource(9))
	found := 0
	for range 3000 {
		var from, l []int
		at := abscissas(r)[r.Intn(20):]
		for range r.Intn(6) {
			from = append(from, one(r, at))
			l = append(l, one(r, append(numbers(), r.Intn(q), some(r))))
		}
		if shared(t, from, l) {
			found++
		}
	}
	if found < 500 {
		t.Errorf("only %d of all lists have a sum", found)
	}
	for _, n := range []int{1, 2, 19, 20, 60, 61, 100} {
		var from, l []int
		for range n {
			from = append(from, 1+r.Intn(q-1))
			l = append(l, some(r))
		}
		if !shared(t, from, l) || shared(t, from, l[1:]) || shared(t, from, append(l, 0)) || shared(t, from[1:], l) {
			t.Fatalf("Share of %d numbers", n)
		}
	}
}

// TestShareNumbers holds that all numbers have a share, and play a part by their residue alone.
func TestShareNumbers(t *testing.T) {
	for _, y := range numbers() {
		if !shared(t, []int{1}, []int{y}) || !shared(t, []int{q - 1}, []int{y}) || !shared(t, []int{3, 9}, []int{y, 5}) || !shared(t, []int{3, 9, 8}, []int{y, y, y}) {
			t.Fatalf("Share of %d", y)
		}
	}
	for y := range 10 {
		want, _ := weight.Share([]int{4, 7}, []int{y, 2})
		for k := -7; k <= 6; k++ {
			if got, ok := weight.Share([]int{4, 7}, []int{y + k*q, 2}); !ok || got != want {
				t.Fatalf("Share of %d, and of %d times Q more", y, k)
			}
		}
	}
}

// TestShareNothing takes points that are none, or the same, and too few or too many of them.
func TestShareNothing(t *testing.T) {
	for _, x := range append(noPoints(), numbers()...) {
		if shared(t, []int{x}, []int{7}) != isPoint(x) || shared(t, []int{x, x}, []int{7, 8}) || shared(t, []int{1, x, 2}, []int{7, 8, 9}) != (isPoint(x) && x > 2) {
			t.Fatalf("Share of the points %d", x)
		}
		if shared(t, []int{40, x}, []int{7, 8}) != isPoint(x) || shared(t, []int{x, 40, 41}, []int{7, 8, 9}) != isPoint(x) {
			t.Fatalf("Share of the points 40 and %d", x)
		}
	}
	for _, x := range [][2][]int{
		{nil, nil}, {{}, {}}, {nil, {}}, {nil, {1}}, {{1}, nil}, {{}, {1}}, {{1}, {}}, {{1}, {7, 9}}, {{1, 2}, {7}}, {{1, 2}, {7, 9, 11}}, {{1, 2, 3}, {7, 9}},
		{{1, 2, 1}, {7, 9, 7}}, {{2, 1, 1}, {9, 7, 7}}, {{1, 1, 2}, {7, 7, 9}}, {{q - 1, q - 1}, {0, 0}},
	} {
		if shared(t, x[0], x[1]) {
			t.Fatalf("Share of %v and %v", x[0], x[1])
		}
	}
}
