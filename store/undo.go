package store

import (
	"slices"

	"manystrand/api"
)

// A change is a variable, and the state that it had ahead of the change.
type change struct {
	x   int
	was state
}

// A mark is how much there was when it was set.
type mark struct{ changes, count int }

// change gives a variable itself another state.
func (s *Store) change(x int, is state) {
	s.trail = append(s.trail, change{x, s.states[x]})
	s.states[x] = is
}

// back takes back all changes but the first ones.
func (s *Store) back(to int) {
	for _, c := range slices.Backward(s.trail[to:]) {
		s.states[c.x] = c.was
	}
	s.trail = s.trail[:to]
}

// touched returns the variables that all changes but the first ones changed, ascending.
func (s *Store) touched(from int) []int {
	var l []int
	for _, c := range s.trail[from:] {
		l = append(l, c.x)
	}
	slices.Sort(l)
	return slices.Compact(l)
}

// Mark sets a mark, and returns how many stand ahead of it.
func (s *Store) Mark() int {
	if s.isNone() {
		return 0
	}
	s.marks = append(s.marks, mark{len(s.trail), s.Count()})
	return len(s.marks) - 1
}

// Undo takes back all that happened behind a mark, which stays the last one.
func (s *Store) Undo(mark int) api.Errno {
	switch {
	case s.isNone():
		return api.ErrNil
	case mark < 0 || mark >= len(s.marks):
		return api.ErrArg
	}
	m := s.marks[mark]
	s.back(m.changes)
	s.states = s.states[:m.count+1]
	s.marks = s.marks[:mark+1]
	return api.OK
}
