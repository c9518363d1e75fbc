package delay_test

import (
	"math"
	"math/big"
	"math/rand"
	"reflect"
	"slices"
	"strings"
	"testing"

	"sortes/api"
	"sortes/delay"
)

// P10.8

// TestRunTwice holds that running for s and then for t steps is running for s + t steps.
func TestRunTwice(t *testing.T) {
	r := rand.New(rand.NewSource(31))
	for range 300 {
		x, first, second := some(r), r.Intn(500), r.Intn(500)
		middle, _ := delay.Run(x, first)
		end, _ := delay.Run(middle, second)
		if want, ok := delay.Run(x, first+second); !ok || end != want {
			t.Fatalf("Run of %q for %d and %d steps is %q, not %q", x, first, second, end, want)
		}
	}
	x := delay.Start("twice")
	middle, _ := delay.Run(x, 1000000)
	end, _ := delay.Run(middle, most-1000000)
	if want, ok := delay.Run(x, most); !ok || end != want {
		t.Errorf("Run is %q, not %q", end, want)
	}
}

// TestRunSquares holds that a step is a square.
func TestRunSquares(t *testing.T) {
	x := delay.Start("squares")
	for steps := range 400 {
		if got, _ := delay.Run(delay.Start("squares"), steps); got != x {
			t.Fatalf("Run for %d steps is %q, not %q", steps, got, x)
		}
		x = delay.Square(x)
	}
}

// TestResumedWork holds that work that was saved and resumed, once or often, comes to the same end.
func TestResumedWork(t *testing.T) {
	r := rand.New(rand.NewSource(32))
	for range 200 {
		x, steps := some(r), r.Intn(300)
		want, _ := delay.Run(x, steps)
		w := delay.New(x, steps)
		for !w.Step(r.Intn(60)) {
			if r.Intn(2) == 0 {
				var err api.Errno
				if w, err = delay.Resume(w.Save()); err != api.OK {
					t.Fatalf("Resume is %d", err)
				}
			}
		}
		w, _ = delay.Resume(w.Save())
		if got, ok := w.End(); !ok || got != want {
			t.Fatalf("End is %q, %t, not %q", got, ok, want)
		}
	}
}

// TestProofs holds that Verify accepts what Prove returned, for numbers that are reduced, and that its result is that of Run.
func TestProofs(t *testing.T) {
	r := rand.New(rand.NewSource(33))
	for range 300 {
		x, length := some(r), 1<<r.Intn(12)
		y, middles, ok := delay.Prove(x, length)
		if want, _ := delay.Run(x, length); !ok || y != want || 1<<len(middles) != length {
			t.Fatalf("Prove(%q, %d) = %q, %q, %t", x, length, y, middles, ok)
		}
		if got := delay.Verify(x, y, length, middles); got != isReduced(x) {
			t.Fatalf("Verify(%q, %q, %d, %q) = %t", x, y, length, middles, got)
		}
		reduced, _ := delay.Run(x, 0)
		if !delay.Verify(reduced, y, length, middles) {
			t.Fatalf("Verify(%q, %q, %d, %q) is false", reduced, y, length, middles)
		}
	}
}

// claims returns what one side of a dispute says at each step: the right numbers up to a step, and then others.
func claims(r *rand.Rand, x api.Nat, steps, good int) []api.Nat {
	l := []api.Nat{x}
	for i := 1; i <= steps; i++ {
		y := right(run(value(l[i-1]), 1))
		if i > good {
			y = one(r, []api.Nat{y, residue(r), some(r)})
		}
		l = append(l, y)
	}
	return l
}

// settled plays a dispute between two sides to its end, and returns what Decide finds.
func settled(t *testing.T, a, b []api.Nat) int {
	t.Helper()
	last := len(a) - 1
	d := api.Dispute{Low: 0, High: last, From: a[0], A: a[last], B: b[last]}
	for range 20 {
		mid := d.Low + (d.High-d.Low)/2
		d = halved(t, d, a[mid], b[mid])
	}
	if d.High-d.Low != 1 {
		t.Fatalf("after 20 calls the dispute is %v", d)
	}
	decided(t, d, decide(d))
	return delay.Decide(d)
}

// TestDisputes holds that a side that says the right numbers is not found wrong, and that the other one is, if they came to different numbers.
func TestDisputes(t *testing.T) {
	r := rand.New(rand.NewSource(34))
	for range 500 {
		steps := 1 + r.Intn(100)
		x := residue(r)
		honest, other := claims(r, x, steps, steps), claims(r, x, steps, r.Intn(steps+1))
		differ := value(honest[steps]).Cmp(value(other[steps])) != 0
		first, second := settled(t, honest, other), settled(t, other, honest)
		if differ && (first != 2 || second != 1) || !differ && (first == 1 || first == 3 || second > 1) {
			t.Fatalf("of %d steps with the ends %q and %q: %d and %d", steps, honest[steps], other[steps], first, second)
		}
	}
}

// TestLongDispute plays a dispute about MaxSquares steps.
func TestLongDispute(t *testing.T) {
	x := delay.Start("dispute")
	for _, wrong := range []int{1, 2, 3, most / 2, most/2 + 1, most - 1, most, 654321} {
		d := api.Dispute{High: most, From: x}
		// At From both sides are right, so that nobody need begin again at x.
		says := func(step int) (honest, liar api.Nat) {
			honest, _ = delay.Run(d.From, step-d.Low)
			if step < wrong {
				return honest, wide(honest, 1)
			}
			return honest, delay.Square(of(step))
		}
		d.A, d.B = says(most)
		for range 20 {
			honest, liar := says(d.Low + (d.High-d.Low)/2)
			d = halved(t, d, honest, liar)
		}
		if d.High != wrong || d.Low != wrong-1 {
			t.Errorf("the dispute about the step %d is %v", wrong, d)
		}
		decided(t, d, 2)
		d.A, d.B = d.B, d.A
		decided(t, d, 1)
	}
}

// TestBothWrong holds that two sides that are both wrong at a step are both found wrong.
func TestBothWrong(t *testing.T) {
	x := of(3)
	l := []api.Nat{x, of(9), of(10), of(11), of(12)}
	m := []api.Nat{x, of(9), of(81), of(5), of(6)}
	if got := settled(t, l, m); got != 1 {
		t.Errorf("Decide finds %d", got)
	}
	m[2] = of(82)
	if got := settled(t, l, m); got != 3 {
		t.Errorf("Decide finds %d", got)
	}
}

// TestExamples holds the examples of the chapter.
func TestExamples(t *testing.T) {
	for _, x := range [][2]int{{0, 2}, {1, 4}, {3, 256}} {
		if got, ok := delay.Run("\x02", x[0]); !ok || got != of(x[1]) {
			t.Errorf("Run of 2 for %d steps is %q, %t", x[0], got, ok)
		}
	}
	if got, ok := delay.Run("\x02", -1); got != "" || ok {
		t.Errorf("Run of 2 for -1 steps is %q, %t", got, ok)
	}
	if y, middles, ok := delay.Prove("\x02", 2); y != "\x10" || !slices.Equal(middles, []api.Nat{"\x04"}) || !ok {
		t.Errorf("Prove of 2 for 2 steps is %q, %q, %t", y, middles, ok)
	}
	if !delay.Verify("\x02", "\x10", 2, []api.Nat{"\x04"}) || delay.Verify("\x02", "\x10", 2, []api.Nat{"\x05"}) || delay.Verify("\x02", "\x10", 3, []api.Nat{"\x04"}) {
		t.Error("Verify of 2, 16 and 4")
	}
	w := delay.New("\x03", 2)
	if w.Step(1) || w.Save() != "work 1 2 9" || !w.Step(5) {
		t.Errorf("Save is %q", w.Save())
	}
	if y, ok := w.End(); y != "\x51" || !ok {
		t.Errorf("End is %q, %t", y, ok)
	}
	d := api.Dispute{Low: 0, High: 4, From: "\x02", A: "\x03", B: "\x04"}
	if got, want := delay.Next(d, "\x07", "\x07"), (api.Dispute{Low: 2, High: 4, From: "\x07", A: "\x03", B: "\x04"}); got != want {
		t.Errorf("Next is %v, not %v", got, want)
	}
	if got, want := delay.Next(d, "\x07", "\x08"), (api.Dispute{Low: 0, High: 2, From: "\x02", A: "\x07", B: "\x08"}); got != want {
		t.Errorf("Next is %v, not %v", got, want)
	}
	for _, x := range []struct {
		a, b api.Nat
		want int
	}{{"\x09", "\x08", 2}, {"\x08", "\x09", 1}, {"\x07", "\x08", 3}} {
		if got := delay.Decide(api.Dispute{Low: 0, High: 1, From: "\x03", A: x.a, B: x.b}); got != x.want {
			t.Errorf("Decide of %q and %q is %d, not %d", x.a, x.b, got, x.want)
		}
	}
}

// R3

// TestArguments holds that middles are not changed, nor what is behind their end.
func TestArguments(t *testing.T) {
	for length := 1; length <= 64; length *= 2 {
		p := prove(of(5), length)
		l := append(slices.Clone(p.middles), "behind", "the", "end")[:len(p.middles)]
		before := slices.Clone(l[:cap(l)])
		if !delay.Verify(of(5), p.y, length, l) || delay.Verify(of(6), p.y, length, l) || delay.Verify(of(5), p.y, 2*length, l) {
			t.Fatalf("Verify of %d steps", length)
		}
		if !slices.Equal(before, l[:cap(l)]) {
			t.Errorf("the middles %q were changed to %q", before, l[:cap(l)])
		}
	}
}

// TestOwnMemory holds that no two results share memory.
func TestOwnMemory(t *testing.T) {
	_, first, _ := delay.Prove(of(5), 64)
	want := slices.Clone(first)
	_, second, _ := delay.Prove(of(5), 64)
	_ = append(second[:3], "", "")
	clear(second[:cap(second)])
	if _, third, _ := delay.Prove(of(5), 64); !slices.Equal(first, want) || !slices.Equal(third, want) {
		t.Errorf("the middles are %q and %q, not %q", first, third, want)
	}
}

// R4 and P1

// answers are the results of all functions.
type answers struct {
	start, square, run api.Nat
	ran                bool
	proof              proof
	verify             bool
	work               []string
	resumed            []string
	next               api.Dispute
	decide             int
}

// told returns what the methods of a Work answer.
func told(w *delay.Work, n int) []string {
	l := []string{w.Save()}
	for range 2 {
		done := w.Step(n)
		y, ok := w.End()
		l = append(l, w.Save(), string(y), value(y).String())
		if done != ok {
			l = append(l, "Step and End differ")
		}
	}
	return l
}

// foretold returns by the words of the chapter what told does; m is nil for a nil Work.
func foretold(m *model, n int) []string {
	if m == nil {
		return []string{"", "", "", "0", "", "", "0"}
	}
	l := []string{m.save()}
	for range 2 {
		if m.t-m.done > 1000 && n > 1000 {
			m.now, m.done = run(m.now, min(n, m.t-m.done)), m.done+min(n, m.t-m.done)
		}
		m.step(n)
		y, _ := m.end()
		l = append(l, m.save(), string(y), value(y).String())
	}
	return l
}

// all calls all functions.
func all(x, y api.Nat, t, n int, middles []api.Nat, words string, d api.Dispute) answers {
	a := answers{start: delay.Start(words), square: delay.Square(x)}
	a.run, a.ran = delay.Run(x, t)
	a.proof.y, a.proof.middles, a.proof.ok = delay.Prove(x, t)
	a.verify = delay.Verify(x, y, t, middles)
	a.work = told(delay.New(x, t), n)
	w, err := delay.Resume(words)
	if (w == nil) != (err == api.ErrForm) || w != nil && err != api.OK {
		a.work = nil
	}
	a.resumed = told(w, n)
	a.next, a.decide = delay.Next(d, x, y), delay.Decide(d)
	return a
}

// wanted returns by the words of the chapter what all returns.
func wanted(x, y api.Nat, t, n int, middles []api.Nat, words string, d api.Dispute) answers {
	a := answers{start: start(words), square: right(run(value(x), 1)), verify: verify(x, y, t, middles), proof: prove(x, t), next: next(d, x, y), decide: decide(d)}
	var m *model
	if t >= 0 && t <= most {
		a.run, a.ran = right(run(value(x), t)), true
		m = &model{run(value(x), 0), 0, t}
	}
	a.work = foretold(m, n)
	m, _ = find(words)
	a.resumed = foretold(m, n)
	return a
}

// TestAnything calls all functions with arguments that may be anything, twice each: they answer as the words of the chapter want.
func TestAnything(t *testing.T) {
	r := rand.New(rand.NewSource(35))
	many := append(edges(), outside()...)
	for range 150 {
		x, y := some(r), some(r)
		length := one(r, []int{one(r, many), 1 << r.Intn(8), 1 << r.Intn(8), r.Intn(100)})
		n := one(r, []int{one(r, many), r.Intn(20), r.Intn(200)})
		var middles []api.Nat
		if isLength(length) && r.Intn(2) == 0 {
			p := prove(x, length)
			y, middles = p.y, p.middles
		}
		if r.Intn(3) == 0 {
			middles = append(middles, some(r))
		}
		words := "work " + large(r.Intn(50)).String() + " " + large(r.Intn(200)).String() + " " + one(r, []*big.Int{value(x), value(y), value(residue(r))}).String()
		d := api.Dispute{Low: one(r, many), High: one(r, many), From: some(r), A: some(r), B: some(r)}
		if r.Intn(2) == 0 {
			d.High = d.Low + r.Intn(3)
		}
		want := wanted(x, y, length, n, middles, words, d)
		for range 2 {
			if got := all(x, y, length, n, middles, words, d); !got.proof.is(want.proof) {
				t.Fatalf("Prove(%q, %d) = %v, not %v", x, length, got.proof, want.proof)
			} else if got.proof = want.proof; !reflect.DeepEqual(got, want) {
				t.Fatalf("of %q, %q, %d, %d, %q, %q and %v: %v, not %v", x, y, length, n, middles, words, d, got, want)
			}
		}
	}
}

// TestManyWorks holds that the works of a machine that stops at any time come to the ends that they come to without it.
func TestManyWorks(t *testing.T) {
	r := rand.New(rand.NewSource(36))
	saved := map[string]string{}
	ends := map[string]api.Nat{}
	for _, name := range strings.Fields("a b c d e f") {
		x := delay.Start(name)
		steps := 1 + r.Intn(200)
		ends[name], _ = delay.Run(x, steps)
		saved[name] = delay.New(x, steps).Save()
	}
	for range 300 {
		name := one(r, strings.Fields("a b c d e f"))
		w, err := delay.Resume(saved[name])
		if err != api.OK {
			t.Fatalf("Resume(%q) is %d", saved[name], err)
		}
		w.Step(one(r, []int{r.Intn(20), r.Intn(20), -1, math.MinInt}))
		if r.Intn(4) > 0 {
			saved[name] = w.Save()
		}
	}
	for name, s := range saved {
		w, _ := delay.Resume(s)
		w.Step(math.MaxInt)
		if y, ok := w.End(); !ok || y != ends[name] {
			t.Errorf("%s comes to %q, %t, not %q", name, y, ok, ends[name])
		}
	}
}
