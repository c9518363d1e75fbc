package delay_test

import (
	"math"
	"math/big"
	"math/rand"
	"slices"
	"testing"

	"sortes/api"
	"sortes/delay"
)

// P10.4

// model is the work by the words of the chapter.
type model struct {
	now     *big.Int
	done, t int
}

func (m *model) step(n int) bool {
	for ; n > 0 && m.done < m.t; n-- {
		m.now = times(m.now, m.now)
		m.done++
	}
	return m.done == m.t
}

func (m *model) end() (api.Nat, bool) {
	if m.done == m.t {
		return right(m.now), true
	}
	return "", false
}

func (m *model) save() string {
	return "work " + large(m.done).String() + " " + large(m.t).String() + " " + m.now.String()
}

// begun returns a Work with its model.
func begun(t *testing.T, x api.Nat, steps int) (*delay.Work, *model) {
	t.Helper()
	w := delay.New(x, steps)
	if w == nil {
		t.Fatalf("New(%q, %d) is nil", x, steps)
	}
	return w, &model{run(value(x), 0), 0, steps}
}

// same fails unless the work is in the state of its model.
func same(t *testing.T, w *delay.Work, m *model) {
	t.Helper()
	got, ok := w.End()
	if want, done := m.end(); got != want || ok != done {
		t.Fatalf("End is %q, %t, not %q, %t", got, ok, want, done)
	}
	if got := w.Save(); got != m.save() {
		t.Fatalf("Save is %q, not %q", got, m.save())
	}
}

// stepped fails unless Step answers what it does by the words of the chapter.
func stepped(t *testing.T, w *delay.Work, m *model, n int) {
	t.Helper()
	if got, want := w.Step(n), m.step(n); got != want {
		t.Fatalf("Step(%d) is %t", n, got)
	}
	same(t, w, m)
}

func TestNew(t *testing.T) {
	for _, x := range numbers() {
		for _, steps := range []int{0, 1, 2, 3, 1000, most - 1, most} {
			same(t, delay.New(x, steps), &model{run(value(x), 0), 0, steps})
		}
		for _, steps := range outside() {
			if w := delay.New(x, steps); w != nil {
				t.Errorf("New(%q, %d) is %q", x, steps, w.Save())
			}
		}
	}
}

func TestStep(t *testing.T) {
	for _, x := range numbers() {
		for _, steps := range []int{0, 1, 2, 3, 10} {
			w, m := begun(t, x, steps)
			for range steps + 2 {
				stepped(t, w, m, 1)
			}
		}
	}
}

// TestStepSizes takes all sorts of numbers of steps at once.
func TestStepSizes(t *testing.T) {
	none := []int{0, -1, -2, -1000, math.MinInt, math.MinInt + 1}
	all := []int{20, 21, 22, 1000, most, most + 1, math.MaxInt, math.MaxInt - 1}
	for _, first := range slices.Concat(none, []int{1, 2, 7, 8, 9, 19}, all) {
		for _, second := range slices.Concat(none, []int{1, 2, 11, 12, 13, 18}, all) {
			w, m := begun(t, of(7), 20)
			stepped(t, w, m, first)
			stepped(t, w, m, second)
			stepped(t, w, m, math.MinInt)
			stepped(t, w, m, 0)
			stepped(t, w, m, math.MaxInt)
			stepped(t, w, m, math.MaxInt)
			stepped(t, w, m, 1)
			stepped(t, w, m, -1)
		}
	}
}

func TestStepAnyhow(t *testing.T) {
	r := rand.New(rand.NewSource(11))
	for range 200 {
		w, m := begun(t, some(r), r.Intn(100))
		for range 20 {
			stepped(t, w, m, one(r, []int{r.Intn(20) - 4, r.Intn(20) - 4, 1, r.Intn(200), -r.Intn(1 << 40)}))
		}
	}
}

func TestStepLong(t *testing.T) {
	w := delay.New(of(2), most)
	for i, n := range []int{most / 2, 1, 100000} {
		if w.Step(n) {
			t.Errorf("the piece %d ends the work", i)
		}
	}
	if y, ok := w.End(); y != "" || ok {
		t.Errorf("End is %q, %t", y, ok)
	}
	if !w.Step(most) {
		t.Error("the last piece does not end the work")
	}
	if y, ok := w.End(); !ok || y != right(run(large(2), most)) {
		t.Errorf("End is %q, %t", y, ok)
	}
}

// TestTwoWorks holds that works do not touch each other.
func TestTwoWorks(t *testing.T) {
	w, m := begun(t, of(3), 30)
	other, model := begun(t, of(5), 20)
	for n := range 8 {
		stepped(t, w, m, n)
		stepped(t, other, model, 7-n)
		same(t, w, m)
	}
	second, err := delay.Resume(w.Save())
	if err != api.OK {
		t.Fatal(err)
	}
	same(t, second, m)
	text := w.Save()
	second.Step(1)
	if w.Save() != text {
		t.Errorf("the first work was changed to %q", w.Save())
	}
	same(t, w, m)
}

func TestNilWork(t *testing.T) {
	var w *delay.Work
	for _, n := range []int{0, 1, -1, math.MaxInt, math.MinInt} {
		if w.Step(n) {
			t.Errorf("Step(%d) is true", n)
		}
		if y, ok := w.End(); y != "" || ok {
			t.Errorf("End is %q, %t", y, ok)
		}
		if s := w.Save(); s != "" {
			t.Errorf("Save is %q", s)
		}
	}
	if w := delay.New(of(2), -1); w.Step(1) || w.Save() != "" {
		t.Error("a work of -1 steps")
	}
}

func TestZeroWork(t *testing.T) {
	w, m := new(delay.Work), &model{large(0), 0, 0}
	same(t, w, m)
	for _, n := range []int{0, 1, -1, math.MaxInt, math.MinInt} {
		stepped(t, w, m, n)
	}
	if got, want := new(delay.Work).Save(), delay.New("", 0).Save(); got != want || want != "work 0 0 0" {
		t.Errorf("Save is %q and %q", got, want)
	}
	if y, ok := new(delay.Work).End(); y != "" || !ok {
		t.Errorf("End is %q, %t", y, ok)
	}
	if !new(delay.Work).Step(0) {
		t.Error("Step(0) is false")
	}
}
