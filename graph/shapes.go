package graph

import (
	"iter"
	"slices"

	"manystrand/api"
	"manystrand/equal"
)

// The labels of records that are written in a way of their own.
const (
	pairLabel  = "|"
	tupleLabel = "#"
	nilLabel   = "nil"
)

// A table gives keys the numbers 0, 1, .. in the order in which they first come.
type table[K comparable] map[K]int

func (t table[K]) number(key K) (n int, isNew bool) {
	n, known := t[key]
	if !known {
		n = len(t)
		t[key] = n
	}
	return n, !known
}

// isPair reports whether a node is a record A|B.
func isPair(n api.Node) bool { return n.Text == pairLabel && len(n.Feats) == 2 && isCounted(n) }

// isTuple reports whether a node is a record A#B, or one with more parts.
func isTuple(n api.Node) bool { return n.Text == tupleLabel && len(n.Feats) >= 2 && isCounted(n) }

// isCounted reports whether a node's features are 1, 2, ..
func isCounted(n api.Node) bool {
	for i, f := range n.Feats {
		if f.N != i+1 {
			return false
		}
	}
	return true
}

func pair(first, second int) api.Node {
	return api.Node{Kind: "rec", Text: pairLabel, Feats: []api.Feat{{N: 1}, {N: 2}}, Kids: []int{first, second}}
}

func atom(text string) api.Node { return api.Node{Kind: "rec", Text: text} }

// chain returns the pairs that hang together by their second parts, from a node on, and whether nil
// stands behind them.
func chain(g api.Graph, n int) (pairs []int, closed bool) {
	for isPair(g.Nodes[n]) {
		if len(pairs) == len(g.Nodes) {
			return pairs, false // it goes round
		}
		pairs = append(pairs, n)
		n = g.Nodes[n].Kids[1]
	}
	end := g.Nodes[n]
	return pairs, end.Kind == "rec" && end.Text == nilLabel && len(end.Feats) == 0
}

// listOf returns a graph of the list of some graphs, none of whose nodes are joined.
func listOf(l []api.Graph) api.Graph {
	var nodes []api.Node
	var items []int
	for _, g := range l {
		var item int
		nodes, item = equal.Beside(nodes, g)
		items = append(items, item)
	}
	nodes = append(nodes, atom(nilLabel))
	for _, item := range slices.Backward(items) {
		nodes = append(nodes, pair(item, len(nodes)-1))
	}
	return api.Graph{Root: len(nodes) - 1, Nodes: nodes}
}

// ofKind goes through the nodes of a kind, which may be changed, in the order of their numbers.
func ofKind(g api.Graph, kind string) iter.Seq[*api.Node] {
	return func(yield func(*api.Node) bool) {
		for i := range g.Nodes {
			if g.Nodes[i].Kind == kind && !yield(&g.Nodes[i]) {
				return
			}
		}
	}
}
