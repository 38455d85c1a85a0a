package domain

import (
	"slices"

	"manystrand/api"
)

// Fix returns the fixpoint of propagators and domains.
func Fix(props []api.Prop, l [][][2]int) ([][][2]int, api.Errno) {
	if !areValid(props, l) {
		return nil, api.ErrArg
	}
	doms := setsOf(l)
	if hasEmpty(l) || !settle(props, doms) {
		return nil, api.ErrFail
	}
	return rangesOf(doms), api.OK
}

// Stable reports whether no domain is empty and each propagator keeps all of them whole.
func Stable(props []api.Prop, l [][][2]int) bool {
	if !areValid(props, l) || hasEmpty(l) {
		return false
	}
	doms := setsOf(l)
	var b bench
	return all(props, func(p api.Prop) bool {
		less, _ := b.narrow(p, doms)
		return less == 0
	})
}

func hasEmpty(l [][][2]int) bool {
	return slices.ContainsFunc(l, func(d [][2]int) bool { return len(d) == 0 })
}

// settle narrows domains as long as there is a propagator that does not keep them whole, or until one of
// them is empty. What a propagator keeps grows with the domains, so any order ends with the same ones.
func settle(props []api.Prop, doms []set) bool {
	var due queue[int]
	isDue := make([]bool, len(props))
	watched := make([]uint64, len(props))
	for i, p := range props {
		due.put(i)
		isDue[i], watched[i] = true, bitsOf(p.Vars)
	}
	var b bench
	for i, ok := due.take(); ok; i, ok = due.take() {
		isDue[i] = false
		less, failed := b.narrow(props[i], doms)
		if failed {
			return false
		}
		for j, places := range watched {
			if places&less != 0 && !isDue[j] {
				due.put(j)
				isDue[j] = true
			}
		}
	}
	return true
}

// bitsOf returns places as bits; MaxPlaces is less than 64.
func bitsOf(places []int) uint64 {
	var b uint64
	for _, x := range places {
		b |= 1 << x
	}
	return b
}

// A queue gives back first what came first.
type queue[T any] struct{ things []T }

func (q *queue[T]) put(x T) { q.things = append(q.things, x) }

func (q *queue[T]) take() (first T, ok bool) {
	if len(q.things) == 0 {
		return first, false
	}
	first, q.things = q.things[0], q.things[1:]
	return first, true
}
