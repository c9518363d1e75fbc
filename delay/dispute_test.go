package delay_test

import (
	"math"
	"math/rand"
	"testing"

	"sortes/api"
	"sortes/delay"
)

// P10.6

// halved fails unless Next returns what the words of the chapter want, and returns it.
func halved(t *testing.T, d api.Dispute, a, b api.Nat) api.Dispute {
	t.Helper()
	got, want := delay.Next(d, a, b), next(d, a, b)
	if got != want {
		t.Fatalf("Next(%v, %q, %q) = %v, not %v", d, a, b, got, want)
	}
	return got
}

// disputed returns a dispute between two steps.
func disputed(low, high int) api.Dispute {
	return api.Dispute{Low: low, High: high, From: of(3), A: "\x00\x04", B: near(9)}
}

func TestNext(t *testing.T) {
	for _, x := range []struct{ low, high, mid int }{
		{0, 2, 1}, {0, 3, 1}, {0, 4, 2}, {0, 5, 2}, {1, 3, 2}, {1, 4, 2}, {3, 8, 5}, {5, 8, 6}, {7, 100, 53},
		{0, most, most / 2}, {1, most, most / 2}, {2, most, most/2 + 1}, {0, most - 1, most/2 - 1}, {most - 2, most, most - 1}, {most - 3, most, most - 2}, {most - 3, most - 1, most - 2},
	} {
		d := disputed(x.low, x.high)
		if got, want := halved(t, d, of(7), of(7)), (api.Dispute{Low: x.mid, High: x.high, From: of(7), A: d.A, B: d.B}); got != want {
			t.Errorf("Next of %d and %d with equal numbers is %v", x.low, x.high, got)
		}
		if got, want := halved(t, d, of(7), of(8)), (api.Dispute{Low: x.low, High: x.mid, From: d.From, A: of(7), B: of(8)}); got != want {
			t.Errorf("Next of %d and %d with two numbers is %v", x.low, x.high, got)
		}
	}
}

// TestNextValues takes numbers that are written in different ways.
func TestNextValues(t *testing.T) {
	for _, a := range numbers() {
		for _, b := range numbers() {
			halved(t, disputed(3, 10), a, b)
		}
	}
	for _, x := range []struct {
		a, b  api.Nat
		equal bool
	}{
		{"\x00\x07", "\x07", true},
		{"\x07", "\x00\x00\x07", true},
		{"", "\x00", true},
		{"\x00\x00", "", true},
		{"", near(0), false},
		{of(7), near(7), false},
		{near(7), near(7), true},
		{"\x07\x00", "\x07", false},
	} {
		want := api.Dispute{Low: 0, High: 2, From: of(3), A: x.a, B: x.b}
		if x.equal {
			want = api.Dispute{Low: 2, High: 4, From: x.a, A: "\x00\x04", B: near(9)}
		}
		if got := halved(t, disputed(0, 4), x.a, x.b); got != want {
			t.Errorf("Next with %q and %q is %v, not %v", x.a, x.b, got, want)
		}
	}
}

// TestNextOutside takes disputes that Next returns as they are.
func TestNextOutside(t *testing.T) {
	for _, x := range [][2]int{
		{-1, 2}, {-1, 1}, {-2, 0}, {-5, 100}, {math.MinInt, 2}, {math.MinInt, most}, {math.MinInt, math.MaxInt}, {math.MinInt, math.MinInt}, {-most, most}, {math.MinInt, math.MinInt + 1}, {math.MinInt, math.MinInt + 5}, {math.MinInt, 0},
		{0, 1}, {0, 0}, {0, -1}, {0, -2}, {0, math.MinInt}, {0, math.MinInt + 1}, {1, math.MinInt}, {math.MaxInt, math.MinInt}, {math.MaxInt - 1, math.MinInt}, {5, math.MinInt + 1},
		{0, most + 1}, {0, most + 2}, {5, 2 * most}, {most, most + 2}, {most - 1, most + 1}, {0, math.MaxInt}, {math.MaxInt - 2, math.MaxInt}, {0, 1 << 32}, {0, 1<<32 + 2},
		{1, 2}, {2, 2}, {3, 2}, {7, 8}, {8, 8}, {9, 8}, {most - 1, most}, {most, most}, {most + 1, most}, {math.MaxInt, most}, {math.MaxInt, 2}, {math.MaxInt - 1, 2},
	} {
		d := disputed(x[0], x[1])
		for _, b := range []api.Nat{of(7), of(8)} {
			if got := halved(t, d, of(7), b); got != d {
				t.Errorf("Next of %d and %d is %v", x[0], x[1], got)
			}
		}
	}
}

// edges are numbers of steps at the borders.
func edges() []int {
	l := []int{0, 1, 2, 3, 4, 7, 8, most - 3, most - 2, most - 1, most, most + 1, most + 2, math.MaxInt - 2, math.MaxInt - 1, math.MaxInt, math.MinInt, math.MinInt + 1, math.MinInt + 2}
	for _, v := range l[1:9] {
		l = append(l, -v)
	}
	return l
}

func TestNextEdges(t *testing.T) {
	for _, low := range edges() {
		for _, high := range edges() {
			halved(t, disputed(low, high), of(7), of(7))
			halved(t, disputed(low, high), of(7), of(8))
		}
	}
}

// P10.7

// decided fails unless Decide answers want, and the words of the chapter do so, too.
func decided(t *testing.T, d api.Dispute, want int) {
	t.Helper()
	if decide(d) != want {
		t.Fatalf("the words of the chapter make %d of %v", decide(d), d)
	}
	if got := delay.Decide(d); got != want {
		t.Fatalf("Decide(%v) = %d, not %d", d, got, want)
	}
}

func TestDecide(t *testing.T) {
	for _, from := range numbers() {
		y := right(run(value(from), 1))
		above := right(value(y).Add(value(y), n))
		for _, low := range []int{0, 1, 5, most - 1, most, math.MaxInt - 1, -1, -2, math.MinInt} {
			d := api.Dispute{Low: low, High: low + 1, From: from}
			for _, x := range []struct {
				a, b api.Nat
				want int
			}{
				{above, y, 1}, {above, wide(y, 1), 1}, {y, above, 2}, {wide(y, 3), above, 2}, {above, right(value(above).Add(value(above), n)), 3},
				{y, y, 0}, {y, wide(y, 1), 0}, {wide(y, 2), wide(y, 1), 0}, {above, above, 0}, {wide(above, 1), above, 0},
			} {
				d.A, d.B = x.a, x.b
				decided(t, d, x.want)
			}
		}
	}
}

// TestDecideSteps takes disputes about no step, or more than one.
func TestDecideSteps(t *testing.T) {
	for _, low := range edges() {
		for _, high := range edges() {
			want := 0
			if high == low+1 {
				want = 1
			}
			decided(t, api.Dispute{Low: low, High: high, From: of(3), A: of(8), B: of(9)}, want)
			decided(t, api.Dispute{Low: low, High: high, From: of(3), A: of(9), B: of(9)}, 0)
		}
	}
	decided(t, api.Dispute{Low: math.MaxInt, High: math.MinInt, From: of(3), A: of(9), B: of(8)}, 2)
	decided(t, api.Dispute{Low: math.MaxInt, High: math.MinInt, From: of(3), A: of(7), B: of(8)}, 3)
	decided(t, api.Dispute{Low: math.MinInt, High: math.MaxInt, From: of(3), A: of(7), B: of(8)}, 0)
	decided(t, api.Dispute{}, 0)
	decided(t, api.Dispute{High: 1}, 0)
}

func TestDecideAnything(t *testing.T) {
	r := rand.New(rand.NewSource(13))
	found := map[int]int{}
	for range 5000 {
		from := some(r)
		y := right(run(value(from), 1))
		pick := func() api.Nat { return one(r, []api.Nat{y, wide(y, 1), some(r), right(value(y).Add(value(y), n))}) }
		low := one(r, edges())
		d := api.Dispute{Low: low, High: low + r.Intn(2) + r.Intn(2), From: from, A: pick(), B: pick()}
		decided(t, d, decide(d))
		found[decide(d)]++
	}
	if len(found) != 4 || found[3] < 100 {
		t.Errorf("the results were %v", found)
	}
}
