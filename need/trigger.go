package need

import (
	"slices"

	"manystrand/api"
)

// A trigger fires when its variable is needed.
type trigger struct{ x, id int }

// By puts a trigger on a variable, which fires at once if that is needed already.
func (t *Table) By(x, id int) (fired []int, err api.Errno) {
	if err := t.check(x); err != api.OK {
		return nil, err
	}
	if slices.ContainsFunc(t.triggers, func(other trigger) bool { return other.id == id }) {
		return nil, api.ErrTwice
	}
	t.triggers = append(t.triggers, trigger{x, id})
	return t.fire(), api.OK
}

// Need makes a variable needed.
func (t *Table) Need(x int) (fired []int, err api.Errno) {
	if err := t.check(x); err != api.OK {
		return nil, err
	}
	return t.fire(x), api.OK
}

// Needed reports whether a variable is needed.
func (t *Table) Needed(x int) bool {
	if t.isNone() {
		return false
	}
	return t.needed[t.store.Itself(x)] || isDetermined(t.store, x)
}

// Triggers returns the variables and the ids of the triggers that have not fired, as they came.
func (t *Table) Triggers() [][2]int {
	if t.isNone() {
		return nil
	}
	var l [][2]int
	for _, waiting := range t.triggers {
		l = append(l, [2]int{waiting.x, waiting.id})
	}
	return l
}

// fire makes variables needed, and takes away the triggers whose variables are needed by now: it returns
// their ids.
func (t *Table) fire(more ...int) (fired []int) {
	t.spread(more)
	isDue := func(waiting trigger) bool { return t.Needed(waiting.x) }
	for _, waiting := range t.triggers {
		if isDue(waiting) {
			fired = append(fired, waiting.id)
		}
	}
	t.triggers = slices.DeleteFunc(t.triggers, isDue)
	return fired
}

// spread makes variables needed, and what is needed by that: what is one with a needed one by now, and
// what a needed one shows.
func (t *Table) spread(queue []int) {
	for x := range t.needed {
		if t.store.Itself(x) != x || isDetermined(t.store, x) {
			delete(t.needed, x)
			queue = append(queue, x)
		}
	}
	for _, v := range t.views {
		if t.Needed(v.y) {
			queue = append(queue, v.x)
		}
	}
	var shows map[int][]int
	for i := 0; i < len(queue); i++ {
		x := t.store.Itself(queue[i])
		if x == 0 || t.Needed(x) {
			continue
		}
		if shows == nil {
			shows = t.shows()
		}
		t.needed[x] = true
		queue = append(queue, shows[x]...)
	}
}

// shows returns the variables that each variable itself shows.
func (t *Table) shows() map[int][]int {
	shows := map[int][]int{}
	for _, v := range t.views {
		y := t.store.Itself(v.y)
		shows[y] = append(shows[y], v.x)
	}
	return shows
}
