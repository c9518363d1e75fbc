package ratio_test

import (
	"math/rand"
	"slices"
	"testing"

	"sortes/api"
	"sortes/ratio"
)

// P2.7

func same(t *testing.T, law string, a, b api.Rat) {
	t.Helper()
	if a != b || !right(a) {
		t.Fatalf("%s: %s and %s", law, show(a), show(b))
	}
}

// triples calls f with numbers of all sorts.
func triples(f func(a, b, c api.Rat)) {
	l := small(3)
	for _, a := range l {
		for _, b := range l {
			for _, c := range l {
				f(a, b, c)
			}
		}
	}
	r := rand.New(rand.NewSource(10))
	l = lot()
	pick := func() api.Rat {
		if r.Intn(3) == 0 {
			return some(r, 20)
		}
		return l[r.Intn(len(l))]
	}
	for range 4000 {
		f(pick(), pick(), pick())
	}
}

func TestLawsOfSums(t *testing.T) {
	zero := ratio.Of(0)
	triples(func(a, b, c api.Rat) {
		same(t, "a + b = b + a", ratio.Add(a, b), ratio.Add(b, a))
		same(t, "(a + b) + c = a + (b + c)", ratio.Add(ratio.Add(a, b), c), ratio.Add(a, ratio.Add(b, c)))
		same(t, "a + 0 = a", ratio.Add(a, zero), ratio.Neg(ratio.Neg(a)))
		same(t, "a + -a = 0", ratio.Add(a, ratio.Neg(a)), zero)
		same(t, "a - b = a + -b", ratio.Sub(a, b), ratio.Add(a, ratio.Neg(b)))
		same(t, "a + b + c is the sum", ratio.Sum([]api.Rat{a, b, c}), ratio.Add(ratio.Add(a, b), c))
	})
}

func TestLawsOfProducts(t *testing.T) {
	zero, one := ratio.Of(0), ratio.Of(1)
	triples(func(a, b, c api.Rat) {
		same(t, "a b = b a", ratio.Mul(a, b), ratio.Mul(b, a))
		same(t, "(a b) c = a (b c)", ratio.Mul(ratio.Mul(a, b), c), ratio.Mul(a, ratio.Mul(b, c)))
		same(t, "a (b + c) = a b + a c", ratio.Mul(a, ratio.Add(b, c)), ratio.Add(ratio.Mul(a, b), ratio.Mul(a, c)))
		same(t, "a 1 = a", ratio.Mul(a, one), ratio.Add(a, zero))
		same(t, "a 0 = 0", ratio.Mul(a, zero), zero)
		if ratio.Sign(b) == 0 {
			return
		}
		inverse, ok := ratio.Quo(one, b)
		if same(t, "b (1 / b) = 1", ratio.Mul(b, inverse), one); !ok {
			t.Fatalf("1 / %s is not possible", show(b))
		}
		q, ok := ratio.Quo(a, b)
		if same(t, "(a / b) b = a", ratio.Mul(q, b), ratio.Add(a, zero)); !ok {
			t.Fatalf("Quo(%s) is not possible", show(a, b))
		}
	})
}

func TestLawsOfOrder(t *testing.T) {
	triples(func(a, b, c api.Rat) {
		order := ratio.Cmp(a, b)
		if order != -ratio.Cmp(b, a) || ratio.Cmp(ratio.Neg(a), ratio.Neg(b)) != -order {
			t.Fatalf("Cmp(%s) has no opposite", show(a, b))
		}
		if ratio.Cmp(ratio.Add(a, c), ratio.Add(b, c)) != order {
			t.Fatalf("Cmp of sums: %s", show(a, b, c))
		}
		if ratio.Cmp(ratio.Mul(a, c), ratio.Mul(b, c)) != order*ratio.Sign(c) {
			t.Fatalf("Cmp of products: %s", show(a, b, c))
		}
		if ratio.Sign(ratio.Mul(a, b)) != ratio.Sign(a)*ratio.Sign(b) {
			t.Fatalf("Sign of a product: %s", show(a, b))
		}
		l := []api.Rat{a, b, c}
		slices.SortFunc(l, ratio.Cmp)
		if ratio.Cmp(l[0], l[1]) > 0 || ratio.Cmp(l[1], l[2]) > 0 || ratio.Cmp(l[0], l[2]) > 0 {
			t.Fatalf("not in order: %s", show(l...))
		}
	})
}

// TestExamples holds the examples of the chapter.
func TestExamples(t *testing.T) {
	a, ok := ratio.Make(true, "\x06", "\x04")
	if same(t, "Make(true, 6, 4)", a, api.Rat{Neg: true, Num: "\x03", Den: "\x02"}); !ok {
		t.Error("Make(true, 6, 4) is not possible")
	}
	none, ok := ratio.Make(false, "\x01", "")
	nothing(t, none, ok, "Make(false, 1, 0)")
	same(t, "Add(1/2, -1/3)", ratio.Add(frac(1, 2), frac(-1, 3)), api.Rat{Num: "\x01", Den: "\x06"})
	q, ok := ratio.Quo(frac(1, 2), frac(-1, 4))
	if same(t, "Quo(1/2, -1/4)", q, api.Rat{Neg: true, Num: "\x02", Den: "\x01"}); !ok {
		t.Error("Quo(1/2, -1/4) is not possible")
	}
	d, l, ok := ratio.Common([]api.Rat{frac(1, 2), frac(1, 3), ratio.Of(0)})
	if d != "\x06" || !slices.Equal(l, []api.Nat{"\x03", "\x02", ""}) || !ok {
		t.Errorf("Common = %q, %q, %t", d, l, ok)
	}
	if s := ratio.Text(a); s != "-3/2" {
		t.Errorf("Text(-3/2) = %s", s)
	}
	for _, s := range []string{"6/4", "-0", "3/1"} {
		got, ok := ratio.Parse(s)
		nothing(t, got, ok, "Parse "+s)
	}
}
