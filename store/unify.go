package store

import (
	"slices"

	"manystrand/api"
	"manystrand/domain"
)

// Unify makes two variables one, and returns which ones it touched.
func (s *Store) Unify(x, y int) (touched []int, err api.Errno) {
	if err := s.check(x, y); err != api.OK {
		return nil, err
	}
	return s.wholly(func() bool { return s.join(x, y) })
}

// Tell makes a variable one of a domain, and returns which ones it touched.
func (s *Store) Tell(x int, d [][2]int) (touched []int, err api.Errno) {
	if err := s.check(x); err != api.OK {
		return nil, err
	}
	if !domain.Valid(d) {
		return nil, api.ErrArg
	}
	return s.wholly(func() bool { return s.restrict(s.end(x), d) })
}

// Entailed returns 1 if two variables are equal whatever will be told, 0 if they can never be equal, else
// -1, and the variables on which that depends.
func (s *Store) Entailed(x, y int) (is int, waits []int, err api.Errno) {
	if err := s.check(x, y); err != api.OK {
		return 0, nil, err
	}
	begin := len(s.trail)
	fits := s.join(x, y)
	touched := s.touched(begin)
	s.back(begin)
	// Unifying what is equal binds nothing but determined ones to such as are alike.
	waits = slices.DeleteFunc(touched, func(x int) bool { return s.states[x].rank() == determined })
	switch {
	case !fits:
		return 0, nil, api.OK
	case len(waits) == 0:
		return 1, nil, api.OK
	}
	return -1, waits, api.OK
}

// wholly does something, or, if that fails, nothing, and returns which variables it touched.
func (s *Store) wholly(do func() bool) ([]int, api.Errno) {
	begin := len(s.trail)
	if !do() {
		s.back(begin)
		return nil, api.ErrFail
	}
	touched := s.touched(begin)
	if len(s.marks) == 0 {
		s.trail = nil
	}
	return touched, api.OK
}

// join makes two variables one, and reports whether they can be.
func (s *Store) join(x, y int) bool {
	x, y = s.end(x), s.end(y)
	if x == y {
		return true
	}
	from, to := max(x, y), min(x, y)
	if s.states[from].rank() > s.states[to].rank() {
		from, to = to, from
	}
	was := s.states[from]
	s.change(from, state{to: to})
	switch was.rank() {
	case free:
		return true
	case ranged:
		return s.restrict(to, was.domain)
	}
	return s.joinParts(was.node, s.states[to].node)
}

// joinParts makes the parts of two nodes one, each wholly ahead of the next one, and reports whether
// the nodes can be equal.
func (s *Store) joinParts(a, b *api.Node) bool {
	if !looksLike(a, b) {
		return false
	}
	for i := range a.Kids {
		if !s.join(a.Kids[i], b.Kids[i]) {
			return false
		}
	}
	return true
}

// restrict leaves of what a variable itself can be the values of a domain, and reports whether any is left.
func (s *Store) restrict(x int, d [][2]int) bool {
	was := s.states[x]
	switch was.rank() {
	case determined:
		return was.isInt() && domain.Has(d, was.node.N)
	case ranged:
		d, _ = domain.Meet(was.domain, d)
	}
	if !slices.Equal(d, was.domain) {
		s.change(x, stateOf(d))
	}
	return len(d) > 0
}

// stateOf returns the state of a variable that has one of a domain's values.
func stateOf(d [][2]int) state {
	if domain.Size(d) == 1 {
		return state{node: &api.Node{Kind: "int", N: d[0][0]}}
	}
	return state{domain: slices.Clone(d)}
}
