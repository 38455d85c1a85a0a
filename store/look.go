package store

import (
	"slices"

	"manystrand/api"
	"manystrand/equal"
)

// Itself returns the variable itself: that at the end of a variable's chain.
func (s *Store) Itself(x int) int {
	if !s.isVar(x) {
		return 0
	}
	return s.end(x)
}

// end returns the variable at the end of a chain.
func (s *Store) end(x int) int {
	for s.states[x].to != 0 {
		x = s.states[x].to
	}
	return x
}

// Kind returns what a variable is: free, ranged, int, rec, or a thing's sort.
func (s *Store) Kind(x int) string {
	if !s.isVar(x) {
		return ""
	}
	is := s.states[s.end(x)]
	switch is.rank() {
	case free:
		return "free"
	case ranged:
		return "ranged"
	}
	if is.node.Kind == "ref" {
		return is.node.Text
	}
	return is.node.Kind
}

// Node returns what a variable itself is: its Kids are variables.
func (s *Store) Node(x int) (api.Node, api.Errno) {
	if err := s.check(x); err != api.OK {
		return api.Node{}, err
	}
	x = s.end(x)
	if s.states[x].rank() != determined {
		return api.Node{Kind: "var", N: x}, api.OK
	}
	n := *s.states[x].node
	n.Feats = slices.Clone(n.Feats)
	n.Kids = slices.Clone(n.Kids)
	for i, kid := range n.Kids {
		n.Kids[i] = s.end(kid)
	}
	return n, api.OK
}

// Domain returns the values of a variable that is ranged or an int.
func (s *Store) Domain(x int) [][2]int {
	if !s.isVar(x) {
		return nil
	}
	is := s.states[s.end(x)]
	if is.isInt() {
		return [][2]int{{is.node.N, is.node.N}}
	}
	return slices.Clone(is.domain)
}

// Graph returns the least graph of what a variable is.
func (s *Store) Graph(x int) (api.Graph, api.Errno) {
	if err := s.check(x); err != api.OK {
		return api.Graph{}, err
	}
	g := equal.Least(api.Graph{Nodes: s.reached(x)})
	if len(g.Nodes) > api.MaxGraph {
		return api.Graph{}, api.ErrLimit
	}
	return g, api.OK
}

// reached returns the nodes of all variables that are reached from one, its own first.
func (s *Store) reached(x int) []api.Node {
	var nodes []api.Node
	queue := []int{s.end(x)}
	places := map[int]int{queue[0]: 0}
	for i := 0; i < len(queue); i++ {
		n, _ := s.Node(queue[i])
		for k, kid := range n.Kids {
			place, known := places[kid]
			if !known {
				place = len(queue)
				places[kid] = place
				queue = append(queue, kid)
			}
			n.Kids[k] = place
		}
		nodes = append(nodes, n)
	}
	return nodes
}
