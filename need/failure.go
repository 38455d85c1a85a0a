package need

import (
	"slices"

	"manystrand/api"
	"manystrand/store"
)

// A failure is a variable that has failed, and its exception.
type failure struct{ x, with int }

// Fail makes a free variable one that has failed.
func (t *Table) Fail(x, with int) api.Errno {
	if err := t.check(x, with); err != api.OK {
		return err
	}
	isPart := func(v view) bool { return v.isPartOf(t.store, x) }
	if t.store.Kind(x) != "free" || t.hasFailed(x) || slices.ContainsFunc(t.views, isPart) {
		return api.ErrArg
	}
	t.failures = append(t.failures, failure{x, with})
	return api.OK
}

// Failed returns the exception of a variable, if it has failed.
func (t *Table) Failed(x int) (with int, is bool) {
	if t.check(x) != api.OK {
		return 0, false
	}
	for _, f := range t.failures {
		if t.store.Itself(f.x) == t.store.Itself(x) {
			return f.with, true
		}
	}
	return 0, false
}

func (t *Table) hasFailed(x int) bool {
	_, is := t.Failed(x)
	return is
}

// Waits returns the variable for which one waits who wants a variable determined: itself, or 0 if it is
// determined.
func (t *Table) Waits(x int) (on int, err api.Errno) {
	if err := t.check(x); err != api.OK {
		return 0, err
	}
	showsFailure := func(v view) bool {
		return t.store.Itself(v.y) == t.store.Itself(x) && t.hasFailed(v.x)
	}
	switch {
	case isDetermined(t.store, x):
		return 0, api.OK
	case t.hasFailed(x) || slices.ContainsFunc(t.views, showsFailure):
		return 0, api.ErrRaise
	}
	return t.store.Itself(x), api.OK
}

// disturbs reports whether a unification that touched these, and left the store so, would tell something of
// a variable that has failed, or make another one it.
func (t *Table) disturbs(behind *store.Store, touched []int) bool {
	failed := map[int]bool{}
	for _, f := range t.failures {
		failed[t.store.Itself(f.x)] = true
	}
	return slices.ContainsFunc(touched, func(x int) bool { return failed[x] || failed[behind.Itself(x)] })
}
