package need

import (
	"slices"

	"manystrand/api"
)

// Unify makes two variables one, and all that follows from that, and returns which variables it touched and
// which triggers fired.
func (t *Table) Unify(x, y int) (touched, fired []int, err api.Errno) {
	if err := t.check(x, y); err != api.OK {
		return nil, nil, err
	}
	if err := t.refuses(x, y); err != api.OK {
		return nil, nil, err
	}
	touched, err = t.store.Unify(x, y)
	if err != api.OK {
		return nil, nil, err
	}
	shown, err := t.show(t.store)
	if err != api.OK {
		return nil, nil, err
	}
	touched = append(touched, shown...)
	slices.Sort(touched)
	return slices.Compact(touched), t.fire(), api.OK
}

// refuses returns why two variables cannot be made one, unless the store alone says it: what comes of it is
// looked at in a copy of the store.
func (t *Table) refuses(x, y int) api.Errno {
	switch {
	case t.hasFailed(x) || t.hasFailed(y):
		return api.ErrRaise
	case t.isPlain():
		return api.OK
	}
	behind := t.store.Copy()
	touched, err := behind.Unify(x, y)
	switch {
	case err != api.OK:
		return err
	case t.disturbs(behind, touched):
		return api.ErrRaise
	case t.isBlocked(behind):
		return api.ErrWait
	}
	_, err = t.show(behind)
	return err
}

// isPlain reports whether no failure and no view can stand in the way of a unification.
func (t *Table) isPlain() bool {
	matters := func(v view) bool { return !v.isDone(t.store) }
	return len(t.failures) == 0 && !slices.ContainsFunc(t.views, matters)
}
