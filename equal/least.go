package equal

import (
	"slices"

	"manystrand/api"
)

// A copier copies the nodes that it comes to, in the order in which it first comes to them.
type copier struct {
	from   []api.Node
	class  func(n int) int // nodes of one class become one
	places map[int]int     // by classes
	to     []api.Node
}

// Least returns the least graph of a graph, which may have more nodes than a valid one. Its Root and all
// Kids must be numbers of nodes.
func Least(g api.Graph) api.Graph {
	of, _ := Classes(g.Nodes)
	return copied(g, func(n int) int { return of[n] })
}

// Part returns the least graph of a node of a least graph.
func Part(g api.Graph, n int) api.Graph {
	return copied(api.Graph{Root: n, Nodes: g.Nodes}, func(n int) int { return n })
}

// copied returns what is reached from the Root, one node for each class.
func copied(g api.Graph, class func(n int) int) api.Graph {
	c := &copier{from: g.Nodes, class: class, places: map[int]int{}}
	root := c.copy(g.Root)
	return api.Graph{Root: root, Nodes: c.to}
}

// copy returns the number of a node's copy.
func (c *copier) copy(n int) int {
	if place, known := c.places[c.class(n)]; known {
		return place
	}
	place := len(c.to)
	c.places[c.class(n)] = place
	node := c.from[n]
	node.Feats = append([]api.Feat(nil), node.Feats...)
	c.to = append(c.to, node)
	var kids []int
	for _, kid := range node.Kids {
		kids = append(kids, c.copy(kid))
	}
	c.to[place].Kids = kids
	return place
}

// Beside lays a graph's nodes behind others, and returns all, and the number that its Root has there.
func Beside(nodes []api.Node, g api.Graph) (all []api.Node, root int) {
	begin := len(nodes)
	for _, n := range g.Nodes {
		n.Kids = slices.Clone(n.Kids)
		for i := range n.Kids {
			n.Kids[i] += begin
		}
		nodes = append(nodes, n)
	}
	return nodes, begin + g.Root
}
