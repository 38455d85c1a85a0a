package graph

import (
	"manystrand/api"
	"manystrand/equal"
)

// A copier copies the nodes that it comes to, in the order in which it first comes to them.
type copier struct {
	from   []api.Node
	class  func(n int) int // nodes of one class become one
	places table[int]      // by classes
	to     []api.Node
}

// least returns the least graph of a graph, which may have more nodes than a valid one.
func least(g api.Graph) api.Graph {
	of, _ := equal.Classes(g.Nodes)
	return from(g.Root, &copier{from: g.Nodes, class: func(n int) int { return of[n] }})
}

// part returns the least graph of a node of a least graph.
func part(g api.Graph, n int) api.Graph {
	return from(n, &copier{from: g.Nodes, class: func(n int) int { return n }})
}

// from returns what is reached from a node.
func from(root int, c *copier) api.Graph {
	c.places = table[int]{}
	root = c.copy(root)
	return api.Graph{Root: root, Nodes: c.to}
}

// copy returns the number of a node's copy.
func (c *copier) copy(n int) int {
	place, isNew := c.places.number(c.class(n))
	if !isNew {
		return place
	}
	node := c.from[n]
	node.Feats = append([]api.Feat(nil), node.Feats...)
	c.to = append(c.to, node)
	var kids []int
	for _, kid := range node.Kids {
		kids = append(kids, c.copy(kid))
	}
	c.to[place].Kids = kids
	return place
}
