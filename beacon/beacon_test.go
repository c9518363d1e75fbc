package beacon_test

import (
	"math"
	"math/rand"
	"slices"
	"testing"

	"sortes/api"
	"sortes/beacon"
)

// P9.1

func TestBase(t *testing.T) {
	for _, round := range rounds() {
		if got, want := beacon.Base(round), base(round); got != want || !belongs(got) {
			t.Errorf("Base(%d) = %d, not %d", round, got, want)
		}
	}
	for round := -300; round <= 300; round++ {
		if got, want := beacon.Base(round), base(round); got != want {
			t.Errorf("Base(%d) = %d, not %d", round, got, want)
		}
	}
}

// TestBasePublished holds bases that were computed without Go.
func TestBasePublished(t *testing.T) {
	for _, x := range [][2]int{
		{0, 166841934191131507},
		{1, 1060283656915180136},
		{3, 395959045349903426},
		{-1, 1249033728057436011},
		{-10, 1442621544603902341},
		{1000000000, 1360890416912248939},
		{math.MaxInt, 1225705641656243679},
		{math.MinInt, 774990321894024963},
	} {
		if got := beacon.Base(x[0]); got != x[1] {
			t.Errorf("Base(%d) = %d, not %d", x[0], got, x[1])
		}
	}
}

func TestEval(t *testing.T) {
	exponents := []int{0, 1, 2, 7, 1 << 32, 1 << 59, q / 2, q - 2, q - 1}
	for _, round := range rounds() {
		for _, x := range []int{1, 2, 17, 59, 60} {
			evaluated(t, api.Share{X: x, Y: one(rand.New(rand.NewSource(int64(round+x))), exponents)}, round)
		}
	}
	for _, x := range []int{1, 33, 60} {
		for _, y := range exponents {
			if got := evaluated(t, api.Share{X: x, Y: y}, 3); got.X != x || got.Value == 0 || got.Proof == (api.Proof{}) {
				t.Errorf("Eval of (%d, %d) is %v", x, y, got)
			}
		}
	}
	r := rand.New(rand.NewSource(2))
	for range 300 {
		evaluated(t, api.Share{X: 1 + r.Intn(60), Y: r.Intn(q)}, some(r))
	}
}

// TestEvalPublished holds partials that were computed without Go.
func TestEvalPublished(t *testing.T) {
	for _, x := range []struct {
		s     api.Share
		round int
		want  api.Partial
	}{
		{api.Share{X: 1, Y: 7}, 3, api.Partial{X: 1, Value: 2111801424469563403, Proof: api.Proof{C: 139141456461426337, Z: 62046956668488006}}},
		{api.Share{X: 1, Y: 8}, 3, api.Partial{X: 1, Value: 102382884631579062, Proof: api.Proof{C: 1125051477765462390, Z: 443363340764210078}}},
		{api.Share{X: 4, Y: 13}, 3, api.Partial{X: 4, Value: 1279964239518584, Proof: api.Proof{C: 1069613067393261401, Z: 714716164347135117}}},
		{api.Share{X: 5, Y: 15}, 0, api.Partial{X: 5, Value: 1219017822336041645, Proof: api.Proof{C: 522478122994244363, Z: 633393594652753439}}},
		{api.Share{X: 60, Y: 0}, -1, api.Partial{X: 60, Value: 1, Proof: api.Proof{C: 643185287755927118, Z: 309634559800407908}}},
		{api.Share{X: 1, Y: 1}, 1, api.Partial{X: 1, Value: 1060283656915180136, Proof: api.Proof{C: 21260057249303599, Z: 1048795772650579255}}},
		{api.Share{X: 1, Y: api.Q - 1}, math.MaxInt, api.Partial{X: 1, Value: 2204895505809276635, Proof: api.Proof{C: 659287865489618690, Z: 950307735000544504}}},
		{api.Share{X: 60, Y: api.Q - 1}, math.MinInt, api.Partial{X: 60, Value: 1757848808734605589, Proof: api.Proof{C: 923398397911572429, Z: 816074488233850886}}},
	} {
		if got := beacon.Eval(x.s, x.round); got != x.want {
			t.Errorf("Eval(%v, %d) = %v, not %v", x.s, x.round, got, x.want)
		}
	}
}

// TestEvalOutside takes shares that are not in range.
func TestEvalOutside(t *testing.T) {
	none := func(x, y int) {
		t.Helper()
		for _, round := range []int{0, 3, -1, math.MaxInt, math.MinInt} {
			if got := evaluated(t, api.Share{X: x, Y: y}, round); got != (api.Partial{}) {
				t.Errorf("Eval of (%d, %d) for %d is %v", x, y, round, got)
			}
		}
	}
	for _, x := range []int{0, -1, -60, 61, 62, 121, 257, 1<<32 + 1, q, q + 1, 1 - q, math.MaxInt, math.MinInt, math.MinInt + 1} {
		for _, y := range []int{0, 1, 7, q - 1, q, -1} {
			none(x, y)
		}
	}
	for _, y := range []int{-1, -7, q, q + 1, q + 7, 7 - q, -q, 2 * q, p - 1, p, math.MaxInt, math.MinInt} {
		for _, x := range []int{1, 2, 60} {
			none(x, y)
		}
	}
}

// P9.2

func TestVerify(t *testing.T) {
	r := rand.New(rand.NewSource(3))
	for _, o := range offices(r) {
		for x := 1; x <= o.points(); x++ {
			round := one(r, rounds())
			verified(t, o.keys, round, beacon.Eval(o.share(x), round), true)
			verified(t, o.keys, round, o.other(x, round, r.Intn(q)), true)
		}
	}
	for _, round := range rounds() {
		for x := 1; x <= 5; x++ {
			verified(t, example().keys, round, beacon.Eval(example().share(x), round), true)
		}
	}
}

// TestVerifyPoints takes partials that are right but for their point, which nobody has.
func TestVerifyPoints(t *testing.T) {
	r := rand.New(rand.NewSource(4))
	for _, o := range offices(r) {
		n := o.points()
		for _, x := range []int{0, -1, -n, n + 1, n + 2, 61, 62, 2*n + 1, q - 1, q, q + 1, q + n, 2*q + 1, 1 - q, -q, n - 2*q, math.MaxInt, math.MaxInt - 1, math.MinInt, math.MinInt + 1} {
			for _, round := range []int{0, 3} {
				if x <= n && x >= 1 {
					t.Fatalf("%d is a point of %d", x, n)
				}
				verified(t, o.keys, round, o.partial(x, round), false)
			}
		}
		for _, x := range []int{1, n} {
			verified(t, o.keys, 3, o.partial(x, 3), true)
		}
	}
}

// TestVerifyOfOthers takes the partials of other points.
func TestVerifyOfOthers(t *testing.T) {
	r := rand.New(rand.NewSource(5))
	for _, o := range offices(r) {
		for _, x := range o.drawn(r, min(o.points(), 6)) {
			y := eval(o.share(x), 3)
			for _, other := range o.drawn(r, min(o.points(), 6)) {
				moved := y
				moved.X = other
				// All points of constant polynomials have the same partial.
				verified(t, o.keys, 3, moved, o.share(x).Y == o.share(other).Y)
			}
		}
	}
}

// TestVerifyWrong takes partials with another Value, of another round, with another proof, and numbers that are no members of the group.
func TestVerifyWrong(t *testing.T) {
	r := rand.New(rand.NewSource(6))
	for _, o := range offices(r) {
		for _, x := range []int{1, o.points(), 1 + r.Intn(o.points())} {
			round := one(r, rounds())
			y := eval(o.share(x), round)
			verified(t, o.keys, round, y, true)
			for _, wrong := range o.wrongs(y, round) {
				verified(t, o.keys, round, wrong, false)
			}
		}
	}
}

// TestVerifyRounds holds that a partial is accepted for its round alone.
func TestVerifyRounds(t *testing.T) {
	o := example()
	for _, round := range rounds() {
		y := eval(o.share(2), round)
		for _, other := range rounds() {
			verified(t, o.keys, other, y, other == round)
		}
	}
}

// TestVerifyStranger takes a Value that is no member of the group, with a proof that fits but for this.
func TestVerifyStranger(t *testing.T) {
	found := 0
	o, b := example(), base(3)
	y := value(o.coefs, 1)
	// The even powers of P - a are those of a.
	stranger := p - power(b, y)
	for k := range 200 {
		c := scalar("equal", api.G, power(api.G, y), b, stranger, power(api.G, k), power(b, k))
		z := rest(large(0).Add(large(k), large(times(c, y, q))), q)
		if (q-c)%2 == 0 {
			found++
			verified(t, o.keys, 3, api.Partial{X: 1, Value: stranger, Proof: api.Proof{C: c, Z: z}}, false)
		}
	}
	if found < 50 {
		t.Errorf("%d proofs were tried", found)
	}
}

// TestVerifyOtherOffice takes partials of other polynomials.
func TestVerifyOtherOffice(t *testing.T) {
	r := rand.New(rand.NewSource(7))
	for _, n := range []int{1, 4, 9, 60} {
		a, b := withPoints(r, n), withPoints(r, n)
		a.coefs[0], a.keys.Commits[0] = 5, power(api.G, 5)
		b.coefs[0], b.keys.Commits[0] = 6, power(api.G, 6)
		for _, x := range a.drawn(r, 1) {
			verified(t, b.keys, 3, eval(a.share(x), 3), a.share(x).Y == b.share(x).Y)
			verified(t, a.keys, 3, eval(b.share(x), 3), a.share(x).Y == b.share(x).Y)
		}
	}
}

// TestVerifyKeys takes keys that are not right, with partials that are right but for this.
func TestVerifyKeys(t *testing.T) {
	r := rand.New(rand.NewSource(8))
	for _, o := range offices(r) {
		l := o.partials(3, 1, o.points())
		for _, k := range spoiled(o.keys) {
			for _, y := range l {
				verified(t, k, 3, y, false)
			}
		}
	}
}

// TestVerifyStrangeKeys takes commitments that are no members of the group, but have public values that are.
func TestVerifyStrangeKeys(t *testing.T) {
	o := example()
	// The commitment P - G^2 has the even powers of G^2.
	o.keys.Commits[1] = p - 16
	if publicValue(o.keys.Commits, 2) != power(api.G, o.share(2).Y) {
		t.Fatal("the public value is another one")
	}
	verified(t, o.keys, 3, eval(o.share(2), 3), false)
	verified(t, example().keys, 3, eval(o.share(2), 3), true)
	one := api.Keys{Commits: []int{1024 + p}, Points: [][]int{{1}}}
	verified(t, one, 3, eval(api.Share{X: 1, Y: 5}, 3), false)
	one.Commits[0] = 1024
	verified(t, one, 3, eval(api.Share{X: 1, Y: 5}, 3), true)
}

// TestVerifyTooMany takes keys with more points than there may be.
func TestVerifyTooMany(t *testing.T) {
	r := rand.New(rand.NewSource(9))
	for _, n := range []int{60, 61, 62, 100, 300} {
		o := withPoints(r, n)
		for _, x := range []int{1, 60, n} {
			verified(t, o.keys, 3, o.partial(x, 3), n == 60)
		}
	}
	long := example().keys
	long.Points = slices.Repeat([][]int{{1}}, 100000)
	verified(t, long, 3, example().partial(1, 3), false)
	long.Points = make([][]int, 100000)
	verified(t, long, 3, example().partial(1, 3), false)
	long = example().keys
	long.Commits = slices.Repeat([]int{4}, 100000)
	verified(t, long, 3, example().partial(1, 3), false)
}
