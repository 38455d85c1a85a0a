package entity

import "slices"

// A thing has what its sort has; all else of it is zero.
type thing struct {
	sort  string
	space int
	x     int // the variable of a cell, a port, a chunk
	lock  lock
	row   row // of a dict, an array
}

func isVar(x int) bool { return x >= 1 }

// copied returns a thing that shares no memory with this one.
func (t thing) copied() thing {
	t.lock.waiting = slices.Clone(t.lock.waiting)
	t.row = slices.Clone(t.row)
	return t
}

// variables yields the places where a thing has variables.
func (t *thing) variables(yield func(x *int) bool) {
	// The 0 of a thing without one is none, whatever names tell of 0.
	if isVar(t.x) && !yield(&t.x) {
		return
	}
	for i := range t.row {
		if !yield(&t.row[i].x) {
			return
		}
	}
}

// rename gives a thing the variables that names tell: false, if one of these is none.
func (t *thing) rename(names map[int]int) bool {
	for x := range t.variables {
		if name, is := names[*x]; is {
			*x = name
		}
		if !isVar(*x) {
			return false
		}
	}
	return true
}

func sameThing(a, b thing) bool {
	return a.sort == b.sort && a.space == b.space && a.x == b.x && sameLock(a.lock, b.lock) && slices.Equal(a.row, b.row)
}
