package delay

import "sortes/api"

// Work is the work of running a number for some steps.
type Work struct {
	now       api.Nat
	done, all int
}

// New returns the work of running x for t steps, of which none is done; nil, if t is not from 0 to MaxSquares.
func New(x api.Nat, t int) *Work {
	if !isPermitted(t) {
		return nil
	}
	return &Work{now: rest(x), all: t}
}

// Step does the next n steps, at most those that are left, and reports whether all are done.
func (w *Work) Step(n int) bool {
	if w == nil {
		return false
	}
	n = min(max(n, 0), w.all-w.done)
	w.now = steps(n).run(w.now)
	w.done += n
	return w.isDone()
}

// End returns what the number leads to, and true, if all steps are done; otherwise 0 and false.
func (w *Work) End() (api.Nat, bool) {
	if w == nil || !w.isDone() {
		return "", false
	}
	return w.now, true
}

func (w *Work) isDone() bool {
	return w.done == w.all
}
