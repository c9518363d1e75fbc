package ratio_test

import (
	"math/big"
	"math/rand"
	"slices"
	"testing"

	"sortes/api"
	"sortes/nat"
	"sortes/ratio"
)

// P2.4, P2.5: lists

// summed checks Sum, and that the list is left as it is (R3).
func summed(t *testing.T, l []api.Rat) {
	t.Helper()
	want := new(big.Rat)
	for _, a := range l {
		want.Add(want, value(a))
	}
	before := slices.Clone(l)
	equal(t, ratio.Sum(l), want, "Sum", before...)
	if !slices.Equal(before, l) {
		t.Fatalf("Sum has changed %s to %s", show(before...), show(l...))
	}
}

func TestSum(t *testing.T) {
	summed(t, nil)
	summed(t, []api.Rat{})
	for _, a := range lot() {
		summed(t, []api.Rat{a})
		summed(t, []api.Rat{a, a, frac(1, 3)})
	}
	summed(t, lot())
	summed(t, wrong())
	pairs(func(a, b api.Rat) { summed(t, []api.Rat{a, b, a}) })
	var l []api.Rat
	for n := int64(1); n <= 300; n++ {
		l = append(l, frac(1, n))
		summed(t, l[max(0, len(l)-40):])
	}
	summed(t, l)
	for _, a := range slices.Clone(l) {
		l = append(l, ratio.Neg(a))
	}
	if got := ratio.Sum(l); got != ratio.Of(0) {
		t.Errorf("Sum of numbers and their negatives = %s", show(got))
	}
}

// common checks Common against the least common multiple, and that the list is left as it is (R3).
func common(t *testing.T, l []api.Rat) {
	t.Helper()
	before := slices.Clone(l)
	d, numbers, ok := ratio.Common(l)
	if !slices.Equal(before, l) {
		t.Fatalf("Common has changed %s to %s", show(before...), show(l...))
	}
	least := big.NewInt(1)
	for _, a := range l {
		if !right(a) || a.Neg {
			if ok || d != "" || len(numbers) != 0 {
				t.Fatalf("Common(%s) = %q, %q, %t", show(l...), d, numbers, ok)
			}
			return
		}
		gcd := new(big.Int).GCD(nil, nil, least, whole(a.Den))
		least.Mul(least, new(big.Int).Quo(whole(a.Den), gcd))
	}
	if !ok || d != natural(least) || len(numbers) != len(l) {
		t.Fatalf("Common(%s) = %q, %q, %t, not %s", show(l...), d, numbers, ok, least)
	}
	for i, a := range l {
		v := new(big.Rat).Mul(value(a), new(big.Rat).SetInt(least))
		if !v.IsInt() || numbers[i] != natural(v.Num()) {
			t.Fatalf("Common(%s): the number %d is %s", show(l...), i, nat.Text(numbers[i]))
		}
	}
	summedBack(t, l, d, numbers)
}

// summedBack checks P2.7: the sum of the numbers of Common, divided by d, is Sum.
func summedBack(t *testing.T, l []api.Rat, d api.Nat, numbers []api.Nat) {
	t.Helper()
	var sum api.Nat
	for _, n := range numbers {
		sum = nat.Add(sum, n)
	}
	if back, ok := ratio.Make(false, sum, d); !ok || back != ratio.Sum(l) {
		t.Fatalf("the numbers of Common(%s) have not the sum of the list", show(l...))
	}
}

func TestCommon(t *testing.T) {
	if d, l, ok := ratio.Common(nil); d != "\x01" || len(l) != 0 || !ok {
		t.Errorf("Common(nil) = %q, %q, %t", d, l, ok)
	}
	common(t, nil)
	common(t, []api.Rat{})
	common(t, []api.Rat{ratio.Of(0)})
	common(t, []api.Rat{ratio.Of(0), ratio.Of(0), ratio.Of(7)})
	for _, a := range lot() {
		common(t, []api.Rat{a})
		common(t, []api.Rat{a, a})
		common(t, []api.Rat{frac(1, 2), a, frac(5, 6), ratio.Of(0)})
	}
	size := func(a api.Rat) api.Rat {
		a.Neg = false
		return a
	}
	pairs(func(a, b api.Rat) {
		common(t, []api.Rat{size(a), size(b), size(a)})
	})
	r := rand.New(rand.NewSource(6))
	for range 300 {
		var l []api.Rat
		for range r.Intn(30) {
			l = append(l, frac(int64(r.Intn(1000)), int64(1+r.Intn(60))))
		}
		common(t, l)
	}
}

// TestCommonNothing puts one element that is not right, or negative, anywhere into a list.
func TestCommonNothing(t *testing.T) {
	good := []api.Rat{frac(1, 2), ratio.Of(0), frac(7, 3), ratio.Of(5)}
	for _, bad := range append(wrong(), frac(-1, 2), ratio.Of(-1), frac(-1, 1<<40)) {
		for at := range len(good) + 1 {
			l := slices.Insert(slices.Clone(good), at, bad)
			d, numbers, ok := ratio.Common(l)
			if d != "" || len(numbers) != 0 || ok {
				t.Errorf("Common(%s) = %q, %q, %t", show(l...), d, numbers, ok)
			}
		}
	}
}

// TestCommonMemory holds R3: two results share no memory.
func TestCommonMemory(t *testing.T) {
	l := []api.Rat{frac(1, 2), frac(1, 3)}
	_, first, _ := ratio.Common(l)
	first[0], first[1] = "x", "y"
	if d, again, ok := ratio.Common(l); !ok || d != "\x06" || !slices.Equal(again, []api.Nat{"\x03", "\x02"}) {
		t.Errorf("Common after its result was changed = %q, %q, %t", d, again, ok)
	}
}
