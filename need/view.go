package need

import (
	"slices"

	"manystrand/api"
	"manystrand/store"
)

// A view is a variable y that shows x: nothing but x determines it.
type view struct{ x, y int }

// View makes a variable that shows another one, or returns that one itself, if it is determined.
func (t *Table) View(x int) (y int, err api.Errno) {
	if err := t.check(x); err != api.OK {
		return 0, err
	}
	switch {
	case isDetermined(t.store, x):
		return t.store.Itself(x), api.OK
	case t.hasFailed(x):
		return 0, api.ErrRaise
	}
	y, err = t.store.Var()
	if err != api.OK {
		return 0, err
	}
	t.views = append(t.views, view{x, y})
	return y, api.OK
}

// isOpen reports whether a view has nothing to show yet.
func (v view) isOpen(s *store.Store) bool { return !isDetermined(s, v.x) }

// isDue reports whether a view does not show yet what there is.
func (v view) isDue(s *store.Store) bool { return !v.isOpen(s) && s.Itself(v.x) != s.Itself(v.y) }

// isDone reports whether a view shows what there is, so that nothing can come of it any more.
func (v view) isDone(s *store.Store) bool { return !v.isOpen(s) && !v.isDue(s) }

// isPartOf reports whether a variable is shown by a view, or shows another one.
func (v view) isPartOf(s *store.Store, x int) bool {
	return s.Itself(v.x) == s.Itself(x) || s.Itself(v.y) == s.Itself(x)
}

// isBlocked reports whether a unification that would leave the store so must wait, since it does to a view
// what only that may do which it shows.
func (t *Table) isBlocked(behind *store.Store) bool {
	ys := map[int]bool{}
	for _, v := range t.views {
		if !v.isOpen(t.store) {
			continue
		}
		y := behind.Itself(v.y)
		if behind.Kind(y) != "free" || y == behind.Itself(v.x) || ys[y] {
			return true
		}
		ys[y] = true
	}
	return false
}

// show makes views one with what they show, as often as one more has something to show, and returns what
// that touched in the store.
func (t *Table) show(s *store.Store) (touched []int, err api.Errno) {
	left := t.views
	for again := true; again; {
		again = false
		for _, v := range left {
			if !v.isDue(s) {
				continue
			}
			more, err := s.Unify(v.x, v.y)
			if err != api.OK {
				return nil, err
			}
			touched = append(touched, more...)
			again = true
		}
		if again {
			left = slices.DeleteFunc(slices.Clone(left), func(v view) bool { return v.isDone(s) })
		}
	}
	return touched, api.OK
}
