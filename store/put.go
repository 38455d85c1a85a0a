package store

import (
	"manystrand/api"
	"manystrand/graph"
)

// Var makes a free variable.
func (s *Store) Var() (int, api.Errno) {
	switch {
	case s.isNone():
		return 0, api.ErrNil
	case s.Count() == api.MaxVars:
		return 0, api.ErrLimit
	}
	s.states = append(s.states, state{})
	return s.Count(), api.OK
}

// Put makes the variables that a graph's nodes are, and returns that of the Root.
func (s *Store) Put(g api.Graph) (int, api.Errno) {
	if s.isNone() {
		return 0, api.ErrNil
	}
	g, err := graph.Least(g)
	if err != api.OK {
		return 0, api.ErrArg
	}
	numbers, last, err := s.numbers(g.Nodes)
	switch {
	case err != api.OK:
		return 0, err
	case last > api.MaxVars:
		return 0, api.ErrLimit
	}
	for _, n := range g.Nodes {
		if n.Kind == "var" {
			continue
		}
		for i, kid := range n.Kids {
			n.Kids[i] = numbers[kid]
		}
		s.states = append(s.states, state{node: &n})
	}
	return numbers[g.Root], api.OK
}

// numbers returns the variable that each node is or will be, and the last one that will be there.
func (s *Store) numbers(nodes []api.Node) (numbers []int, last int, err api.Errno) {
	last = s.Count()
	for _, n := range nodes {
		if n.Kind != "var" {
			last++
			numbers = append(numbers, last)
			continue
		}
		if !s.isVar(n.N) {
			return nil, 0, api.ErrArg
		}
		numbers = append(numbers, n.N)
	}
	return numbers, last, api.OK
}
